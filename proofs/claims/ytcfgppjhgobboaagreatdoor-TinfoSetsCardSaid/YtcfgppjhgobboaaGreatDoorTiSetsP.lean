/-
  What a name gets once a capability has been set: plain lists. No program is walked here, and nothing is assumed.
-/
import Derived.Test.YtcfgppjhgobboaaGreatDoorTiSet
namespace Go.Proofs.YtcfgppjhgobboaaGreatDoor
open Go.RowKit Go.Lib

theorem extIdx_modify (l : List ExtD) (i : Nat) (c : CapD) (nm : List UInt8) : extIdx (l.modify i (withCap c)) nm = extIdx l nm := by
  induction l generalizing i with
  | nil => simp
  | cons x l ih =>
    cases i with
    | zero =>
      simp only [List.modify_zero_cons, extIdx, List.findIdx?_cons]
      rfl
    | succ i =>
      have := ih i
      simp only [extIdx] at this
      simp only [List.modify_succ_cons, extIdx, List.findIdx?_cons, this]
theorem getP_placed (l : List CapD) (n : Nat) (c : CapD) : getP (placedP l n c) n = c := by
  unfold getP placedP
  rw [List.getD_eq_getElem?_getD, List.getElem?_set_self (by simp; omega)]
  rfl
theorem getP_placed_ne (l : List CapD) {n m : Nat} (c : CapD) (h : n ≠ m) : getP (placedP l n c) m = getP l m := by
  unfold getP placedP
  rw [List.getD_eq_getElem?_getD, List.getD_eq_getElem?_getD, List.getElem?_set_ne h]
  by_cases hm : m < l.length
  · rw [List.getElem?_append_left hm]
  · rw [List.getElem?_append_right (by omega), List.getElem?_eq_none (show l.length ≤ m by omega)]
    rw [List.getElem?_replicate]
    split <;> rfl
theorem findR_set {t u : TermD} {name : List UInt8} {c : CapD} (h : putTP t name c = some u) : (findR u name).2 = (c, true) := by
  unfold putTP at h
  split at h
  · next k n hq =>
    injection h with h
    subst h
    obtain ⟨hk, hn0, hn⟩ := placeP_small hq
    obtain ⟨k', hk', rfl⟩ : ∃ k' : Nat, k' < 3 ∧ k = k' := ⟨k.toNat, by omega, by omega⟩
    rw [findR, hq]
    simp only
    rw [withList_of t k' hk' _ k' hk', if_pos rfl, getP_placed]
  · next hq =>
    split at h
    · next i hx =>
      injection h with h
      subst h
      obtain ⟨x, hi, _⟩ := extIdx_at hx
      rw [findR, hq]
      simp only [extR]
      rw [show (fun x : ExtD => ({ x with cap := c } : ExtD)) = withCap c from rfl, extIdx_modify, hx]
      simp only [List.getElem?_modify_eq, hi]
      rfl
    · cases h
theorem findR_other {t u : TermD} {name other : List UInt8} {c : CapD} (h : putTP t name c = some u) (hne : ¬ other = name) : (findR u other).2.1 = (findR t other).2.1 := by
  unfold putTP at h
  split at h
  · next k n hq =>
    injection h with h
    subst h
    obtain ⟨hk, hn0, hn⟩ := placeP_small hq
    obtain ⟨k', hk', rfl⟩ : ∃ k' : Nat, k' < 3 ∧ k = k' := ⟨k.toNat, by omega, by omega⟩
    unfold findR
    cases ho : placeP other with
    | none => simp only; rw [(withList_rest t _ _).2.2]
    | some q =>
      obtain ⟨k2, n2⟩ := q
      obtain ⟨hk2, hn20, hn2⟩ := placeP_small ho
      obtain ⟨k2', hk2', rfl⟩ : ∃ k2' : Nat, k2' < 3 ∧ k2 = k2' := ⟨k2.toNat, by omega, by omega⟩
      simp only
      rw [withList_of t k' hk' _ k2' hk2']
      by_cases hkk : k2' = k'
      · subst hkk
        rw [if_pos rfl]
        refine getP_placed_ne _ _ fun e => hne ?_
        have : n = n2 := by omega
        subst this
        exact placeP_inj ho hq
      · rw [if_neg hkk]
  · next hq =>
    split at h
    · next i hx =>
      injection h with h
      subst h
      obtain ⟨x, hi, hxn⟩ := extIdx_at hx
      unfold findR
      cases ho : placeP other with
      | some q => rfl
      | none =>
        simp only [extR]
        rw [show (fun x : ExtD => ({ x with cap := c } : ExtD)) = withCap c from rfl, extIdx_modify]
        cases hj : extIdx t.exts other with
        | none => rfl
        | some j =>
          obtain ⟨y, hy, hyn⟩ := extIdx_at hj
          have hij : i ≠ j := by
            rintro rfl
            rw [hi] at hy
            injection hy with hy
            subst hy
            exact hne (hyn.symm.trans hxn)
          simp only [List.getElem?_modify_ne _ _ hij, hy]
    · cases h
theorem setP_ok {t u : TermD} {name : List UInt8} {c : CapD} (h : setP t name c = (u, 0)) : putTP t name c = some u := by
  unfold setP at h
  split at h
  · injection h with _ h; cases h
  · next r hr =>
    split at h
    · injection h with h; rw [hr, h]
    · next hne => injection h with _ h; exact absurd h hne
end Go.Proofs.YtcfgppjhgobboaaGreatDoor
