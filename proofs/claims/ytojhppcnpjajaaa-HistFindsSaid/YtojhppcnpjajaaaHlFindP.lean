/-
  A text within a text, and a search through lines, in plain words.
-/
import Derived.Test.YtojhppcnpjajaaaHlSearch
import Derived.Lib.IndexMore
import Derived.Lib.LastIndexLaws
namespace Go.Proofs.Ytojhppcnpjajaaa
open Go.RowKit Go.Shelf Go.Lib

/-- where a text is found in a line: below 0: nowhere -/
def findP (t : ByteArray) (back begins : Bool) (s : ByteArray) : Int :=
  if begins then (if hasPrefix s.data.toList t.data.toList then 0 else -1) else if back then lastIndex s.data.toList t.data.toList else index s.data.toList t.data.toList
/-- is it there? -/
def hasP (t : ByteArray) (begins : Bool) (s : ByteArray) : Bool := if begins then hasPrefix s.data.toList t.data.toList else contains s.data.toList t.data.toList
theorem occ_le {s t : List UInt8} {j : Nat} (h : occAt s t j = true) (hj : j ≤ s.length) : j + t.length ≤ s.length := by
  rcases occAt_room h with h | h
  · exact h
  · rw [h]; simpa using hj
theorem lastIndex_spec (s t : List UInt8) : (lastIndex s t = -1 ∧ ∀ j, j ≤ s.length → occAt s t j = false) ∨ (∃ i : Nat, lastIndex s t = i ∧ i ≤ s.length ∧ occAt s t i = true) := by
  unfold lastIndex
  by_cases hl : t.length ≤ s.length
  · rw [if_pos hl]
    rcases lastOcc_spec s t (s.length - t.length + 1) with h | h
    · refine .inl ⟨h.1, fun j hj => ?_⟩
      cases ho : occAt s t j with
      | false => rfl
      | true =>
        have := occ_le ho hj
        rw [h.2 j (by omega)] at ho
        cases ho
    · obtain ⟨i, h1, h2, h3, _⟩ := h
      exact .inr ⟨i, h2, by omega, h3⟩
  · rw [if_neg hl]
    refine .inl ⟨rfl, fun j hj => ?_⟩
    cases h : occAt s t j with
    | false => rfl
    | true => have := occ_le h hj; omega
theorem findP_spec (t : ByteArray) (back begins : Bool) (s : ByteArray) :
    (findP t back begins s < 0 ∧ hasP t begins s = false) ∨ (∃ i : Nat, findP t back begins s = (i : Int) ∧ i ≤ s.size ∧ hasP t begins s = true ∧ hasPrefix (s.data.toList.drop i) t.data.toList = true ∧ (begins = true → i = 0)) := by
  unfold findP hasP
  cases begins with
  | true =>
    simp only [if_true]
    cases h : hasPrefix s.data.toList t.data.toList with
    | true => exact .inr ⟨0, rfl, Nat.zero_le _, rfl, by simpa using h, fun _ => rfl⟩
    | false => exact .inl ⟨by simp, rfl⟩
  | false =>
    simp only [Bool.false_eq_true, if_false]
    have hsz : s.data.toList.length = s.size := by simp
    have hcon : contains s.data.toList t.data.toList = decide (0 ≤ index s.data.toList t.data.toList) := rfl
    rw [hcon]
    cases back with
    | false =>
      simp only [Bool.false_eq_true, if_false]
      rcases index_spec s.data.toList t.data.toList with ⟨h1, _⟩ | ⟨i, h1, h2, h3, _⟩
      · exact .inl ⟨by omega, by rw [h1]; decide⟩
      · exact .inr ⟨i, h1, by omega, by rw [h1]; simp, h3, fun h => by cases h⟩
    | true =>
      simp only [if_true]
      rcases lastIndex_spec s.data.toList t.data.toList with ⟨h1, h2⟩ | ⟨i, h1, h2, h3⟩
      · refine .inl ⟨by omega, ?_⟩
        rcases index_spec s.data.toList t.data.toList with ⟨h4, _⟩ | ⟨i, h4, h5, h6, _⟩
        · rw [h4]; decide
        · rw [h2 i h5] at h6; cases h6
      · refine .inr ⟨i, h1, by omega, ?_, h3, fun h => by cases h⟩
        rcases index_spec s.data.toList t.data.toList with ⟨_, h5⟩ | ⟨j, h4, _⟩
        · rw [h5 i h2] at h3; cases h3
        · rw [h4]; simp
/-- is a place between where the search begins and where it ends? -/
def betw (back : Bool) (frm : Int) (k : Int) : Bool := if back then decide (k ≤ frm) else decide (frm ≤ k)
theorem src_place {n : Nat} {frm : Int} {back : Bool} {k : Nat} (hk : k < n) (hb : betw back frm k = true) : ∃ j, j < itN n (srcFrom n frm back) back ∧ itP (srcFrom n frm back) back j = (k : Int) := by
  unfold betw at hb
  cases back with
  | true =>
    simp only [if_true, decide_eq_true_eq] at hb
    have hp : srcFrom n frm true = min frm ((n : Int) - 1) := rfl
    have h1 : plc n (srcFrom n frm true) = true := plc_iff.2 (by rw [hp]; omega)
    refine ⟨(srcFrom n frm true).toNat - k, ?_, ?_⟩
    · unfold itN; rw [if_pos h1]; simp only [if_true]; omega
    · unfold itP; simp only [if_true]; rw [hp]; omega
  | false =>
    simp only [Bool.false_eq_true, if_false, decide_eq_true_eq] at hb
    have hp : srcFrom n frm false = max frm 0 := rfl
    have h1 : plc n (srcFrom n frm false) = true := plc_iff.2 (by rw [hp]; omega)
    refine ⟨k - (srcFrom n frm false).toNat, ?_, ?_⟩
    · unfold itN; rw [if_pos h1]; simp only [Bool.false_eq_true, if_false]; rw [hp]; omega
    · unfold itP; simp only [Bool.false_eq_true, if_false]; rw [hp]; omega
/-- what a search tells: nothing, or a place -/
theorem src_spec (F : ByteArray → Int) (l : List HL) (frm : Int) (back : Bool) :
    (srcV F l (srcFrom l.length frm back) back = (0, 0, false) ∧ ∀ (k : Nat) (x : HL), l[k]? = some x → betw back frm k = true → F x.1 < 0) ∨
    (∃ (i : Nat) (x : HL), l[i]? = some x ∧ srcV F l (srcFrom l.length frm back) back = ((i : Int), F x.1, true) ∧ 0 ≤ F x.1 ∧ (∀ (k : Nat) (y : HL), l[k]? = some y → betw back frm k = true → (if back then i < k else k < i) → F y.1 < 0) ∧ (if back then (i : Int) ≤ max frm 0 else frm ≤ i)) := by
  obtain ⟨p, hp⟩ : ∃ p, p = srcFrom l.length frm back := ⟨_, rfl⟩
  have htx : ∀ {k : Nat} {x : HL} {j : Nat}, l[k]? = some x → itP p back j = (k : Int) → srcTxt l p back j = x.1 := fun {k x j} hx hj => by unfold srcTxt; rw [hj]; simp [hx]
  by_cases hall : ∀ j, j < itN l.length p back → F (srcTxt l p back j) < 0
  · refine .inl ⟨by rw [← hp]; exact srcV_none hall, fun k x hx hb => ?_⟩
    obtain ⟨j, hj, hpl⟩ := src_place (List.getElem?_eq_some_iff.1 hx).1 hb
    rw [← hp] at hj hpl
    have := hall j hj
    rwa [htx hx hpl] at this
  · have hex : ∃ j, j < itN l.length p back ∧ 0 ≤ F (srcTxt l p back j) ∧ ∀ m, m < j → F (srcTxt l p back m) < 0 := by
      have h0 : ∃ j, j < itN l.length p back ∧ 0 ≤ F (srcTxt l p back j) := by
        rcases Classical.not_forall.1 hall with ⟨j, hj⟩
        rcases Classical.not_imp.1 hj with ⟨h1, h2⟩
        exact ⟨j, h1, by omega⟩
      obtain ⟨j, hj⟩ := h0
      induction j using Nat.strongRecOn with
      | _ j ih =>
        by_cases hm : ∀ m, m < j → F (srcTxt l p back m) < 0
        · exact ⟨j, hj.1, hj.2, hm⟩
        · rcases Classical.not_forall.1 hm with ⟨m, hm⟩
          rcases Classical.not_imp.1 hm with ⟨h1, h2⟩
          exact ih m h1 ⟨by omega, by omega⟩
    obtain ⟨j, hj, hh, hno⟩ := hex
    have hpl : plc l.length (itP p back j) = true := by rw [itP_plc (Nat.le_of_lt hj)]; exact decide_eq_true hj
    obtain ⟨q0, q1⟩ := plc_iff.1 hpl
    obtain ⟨i, hi⟩ : ∃ i : Nat, itP p back j = (i : Int) := ⟨(itP p back j).toNat, by omega⟩
    have hil : i < l.length := by omega
    have hx : l[i]? = some l[i] := List.getElem?_eq_getElem hil
    generalize l[i] = x at hx
    have e := htx hx hi
    refine .inr ⟨i, x, hx, by rw [← hp, srcV_hit hj hno hh, hi, e], by rw [← e]; exact hh, fun k y hy hb hlt => ?_, ?_⟩
    · obtain ⟨m, hm, hmp⟩ := src_place (List.getElem?_eq_some_iff.1 hy).1 hb
      rw [← hp] at hm hmp
      have := hno m (by
        unfold itP at hi hmp
        cases back
        · simp only [Bool.false_eq_true, if_false] at hi hmp hlt
          omega
        · simp only [if_true] at hi hmp hlt
          omega)
      rwa [htx hy hmp] at this
    · unfold itP at hi
      cases back
      · simp only [Bool.false_eq_true, if_false] at hi ⊢
        have : p = max frm 0 := hp
        omega
      · simp only [if_true] at hi ⊢
        have : p = min frm ((l.length : Int) - 1) := hp
        omega
end Go.Proofs.Ytojhppcnpjajaaa
