/-
  The entries of a directory, as plain lists: in order, and each of them once. No program is walked here, and nothing is assumed.
-/
import Derived.Test.YthpkfgjjaieikaaGreatDoorFsOneP
import Derived.Test.YthpkfgjjaieikaaGreatDoorFsPaths
import Derived.Test.YthpkfgjjaieikaaGreatDoorFsList
namespace Go.Proofs.YthpkfgjjaieikaaGreatDoor
open Go.RowKit Go.Shelf Go.Lib Go.Maps

/-- a text up to its first slash, with it -/
def headP : List UInt8 → List UInt8
  | [] => []
  | c :: r => if c = 47 then [47] else c :: headP r
theorem headP_le : ∀ {r s : List UInt8}, r ≤ s → headP r ≤ headP s
  | [], _, _ => by simp [headP]
  | c :: r, [], h => by simp at h
  | c :: r, d :: s, h => by
    rw [List.cons_le_cons_iff] at h
    simp only [headP]
    rcases h with h | ⟨rfl, h⟩
    · have hne : c ≠ d := fun e => UInt8.lt_irrefl _ (e ▸ h)
      have : ∀ a b : List UInt8, c :: a ≤ d :: b := fun a b => List.cons_le_cons_iff.2 (.inl h)
      split <;> split
      · next e1 e2 => exact absurd (e1.trans e2.symm) hne
      · next e1 e2 => subst e1; exact this _ _
      · next e1 e2 => subst e2; exact this _ _
      · exact this _ _
    · split
      · exact List.le_refl _
      · exact List.cons_le_cons_iff.2 (.inr ⟨rfl, headP_le h⟩)
theorem headP_plain (r : List UInt8) (h : ∀ k : Nat, r[k]? ≠ some 47) : headP r = r := by
  induction r with
  | nil => rfl
  | cons c r ih =>
    have hc : c ≠ 47 := fun e => h 0 (by simp [e])
    rw [headP, if_neg hc, ih fun k => by have := h (k + 1); simpa using this]
theorem headP_cut (r : List UInt8) (i : Nat) (h1 : r[i]? = some 47) (h2 : ∀ k : Nat, k < i → r[k]? ≠ some 47) : headP r = r.take i ++ [47] := by
  induction r generalizing i with
  | nil => simp at h1
  | cons c r ih =>
    cases i with
    | zero =>
      simp at h1
      subst h1
      simp [headP]
    | succ i =>
      have hc : c ≠ 47 := fun e => h2 0 (by omega) (by simp [e])
      rw [headP, if_neg hc, ih i (by simpa using h1) fun k hk => by have := h2 (k + 1) (by omega); simpa using this]
      simp
theorem headP_cutP (r : List UInt8) : headP r = if (cutP r).2.2 then (cutP r).1 ++ [47] else (cutP r).1 := by
  unfold cutP
  by_cases h : indexByte r 47 = -1
  · rw [if_pos h]
    exact headP_plain r fun k => indexByte_none h k
  · rw [if_neg h]
    have hge := indexByte_ge r 47
    have he : indexByte r 47 = ((indexByte r 47).toNat : Int) := by omega
    exact headP_cut r _ (indexByte_some he).1 (indexByte_some he).2

/-- what lies below a directory that is not the root -/
theorem below_iff {d p : List UInt8} (hd : d ≠ [47]) : belowP d p = true ↔ ∃ r, p = d ++ 47 :: r := by
  have hd' : (d == [47]) = false := by simpa using hd
  unfold belowP
  rw [hd', Bool.false_or, Bool.and_eq_true, hasPrefix_root]
  constructor
  · rintro ⟨h1, r, h2⟩
    obtain ⟨t, rfl⟩ := List.isPrefixOf_iff_prefix.1 h1
    rw [List.drop_left] at h2
    exact ⟨r, by rw [h2]⟩
  · rintro ⟨r, rfl⟩
    exact ⟨List.isPrefixOf_iff_prefix.2 ⟨_, rfl⟩, r, by rw [List.drop_left]⟩
theorem entry_below {d r : List UInt8} (hd : d ≠ [47]) : entryP d (d ++ 47 :: r) = (headP r, true) := by
  have hb : belowP d (d ++ 47 :: r) = true := (below_iff hd).2 ⟨r, rfl⟩
  unfold entryP
  rw [hb, if_neg (by simp), List.drop_left]
  have : Lib.trimPrefix (47 :: r) [47] = r := by simp [Lib.trimPrefix, hasPrefix]
  rw [this, ← headP_cutP]
theorem entry_not {d p : List UInt8} (h : belowP d p = false) : (entryP d p).2 = false := by
  unfold entryP
  rw [if_pos h]
theorem append_le {d a b : List UInt8} (h : d ++ a ≤ d ++ b) : a ≤ b := by
  induction d with
  | nil => exact h
  | cons c d ih =>
    rw [List.cons_append, List.cons_append, List.cons_le_cons_iff] at h
    rcases h with h | ⟨_, h⟩
    · exact absurd h (UInt8.lt_irrefl _)
    · exact ih h
/-- the names of sorted paths are sorted -/
theorem namesOf_sorted {d : List UInt8} (hd : d ≠ [47]) {ps : List (List UInt8)} (h : ps.Pairwise (· ≤ ·)) : (namesOf d ps).Pairwise (· ≤ ·) := by
  unfold namesOf
  rw [List.pairwise_filterMap]
  refine h.imp ?_
  intro p q hpq x hx y hy
  have get : ∀ {p x}, (if (entryP d p).2 = true then some (entryP d p).1 else none) = some x → ∃ r, p = d ++ 47 :: r ∧ x = headP r := fun {p x} hx => by
    by_cases hb : belowP d p = true
    · obtain ⟨r, rfl⟩ := (below_iff hd).1 hb
      rw [entry_below hd] at hx
      simp at hx
      exact ⟨r, rfl, hx.symm⟩
    · rw [entry_not (by simpa using hb)] at hx
      cases hx
  obtain ⟨r, rfl, rfl⟩ := get hx
  obtain ⟨s, rfl, rfl⟩ := get hy
  refine headP_le ?_
  have := append_le hpq
  rw [List.cons_le_cons_iff] at this
  rcases this with h | ⟨_, h⟩
  · exact absurd h (UInt8.lt_irrefl _)
  · exact h
theorem pathsOf_sorted (es : List Ent) : (pathsOf es).Pairwise (· ≤ ·) := by
  have := List.pairwise_mergeSort (le := fun x y : List UInt8 => decide (x ≤ y)) (fun a b c h1 h2 => by
    rw [decide_eq_true_eq] at h1 h2 ⊢
    exact List.le_trans h1 h2) (fun a b => by
    rw [Bool.or_eq_true, decide_eq_true_eq, decide_eq_true_eq]
    exact List.le_total a b) (es.map fun x => x.path)
  exact this.imp fun h => by simpa using h

/-- what a sorted list is without its doubles -/
theorem keeps_iff (zs : List (List UInt8)) (j : Nat) : keeps zs.toArray j = true ↔ j = 0 ∨ zs[j]! ≠ zs[j - 1]! := by
  simp [keeps]
theorem get_le {zs : List (List UInt8)} (h : zs.Pairwise (· ≤ ·)) {i j : Nat} (hij : i ≤ j) (hj : j < zs.length) : zs[i]! ≤ zs[j]! := by
  rw [getElem!_pos zs i (by omega), getElem!_pos zs j hj]
  rcases Nat.lt_or_ge i j with hlt | hge
  · exact List.pairwise_iff_getElem.1 h i j (by omega) hj hlt
  · obtain rfl : i = j := by omega
    exact List.le_refl _
theorem compact_nodup {zs : List (List UInt8)} (h : zs.Pairwise (· ≤ ·)) : (Lib.compact zs).Nodup := by
  unfold Lib.compact Lib.compactUpTo List.Nodup
  rw [List.pairwise_map]
  have hp := List.Pairwise.filter (keeps zs.toArray) (List.pairwise_lt_range (n := zs.length))
  have hmem : ∀ x ∈ (List.range zs.length).filter (keeps zs.toArray), x < zs.length ∧ keeps zs.toArray x = true := fun x hx => by
    rw [List.mem_filter, List.mem_range] at hx
    exact hx
  refine List.Pairwise.imp_of_mem ?_ hp
  intro j k hj hk hjk e
  obtain ⟨hj1, _⟩ := hmem j hj
  obtain ⟨hk1, hk2⟩ := hmem k hk
  rcases (keeps_iff zs k).1 hk2 with h0 | h0
  · omega
  · have e' : zs[j]! = zs[k]! := by simpa using e
    have h1 := get_le h (show j ≤ k - 1 by omega) (by omega)
    have h2 := get_le h (show k - 1 ≤ k by omega) hk1
    rw [e'] at h1
    exact h0 (List.le_antisymm h1 h2)
theorem compact_mem {zs : List (List UInt8)} {x : List UInt8} (hx : x ∈ zs) : x ∈ Lib.compact zs := by
  obtain ⟨i, hi, rfl⟩ := List.mem_iff_getElem.1 hx
  unfold Lib.compact Lib.compactUpTo
  induction i with
  | zero => exact List.mem_map.2 ⟨0, List.mem_filter.2 ⟨List.mem_range.2 hi, (keeps_iff _ _).2 (.inl rfl)⟩, by simp [hi]⟩
  | succ i ih =>
    by_cases hk : keeps zs.toArray (i + 1) = true
    · exact List.mem_map.2 ⟨i + 1, List.mem_filter.2 ⟨List.mem_range.2 hi, hk⟩, by simp [hi]⟩
    · rw [keeps_iff] at hk
      have e : zs[i + 1]! = zs[i]! := Decidable.byContradiction fun h => hk (.inr h)
      rw [getElem!_pos zs (i + 1) hi, getElem!_pos zs i (by omega)] at e
      rw [e]
      exact ih (by omega) (List.getElem_mem _)
theorem count_nodup {l : List (List UInt8)} {x : List UInt8} (h : l.Nodup) (hx : x ∈ l) : l.count x = 1 := by
  induction l with
  | nil => cases hx
  | cons y r ih =>
    rw [List.nodup_cons] at h
    by_cases e : y = x
    · subst e
      rw [List.count_cons_self, List.count_eq_zero.2 h.1]
    · rw [List.count_cons_of_ne e]
      exact ih h.2 ((List.mem_cons.1 hx).resolve_left fun h => e h.symm)
theorem compact_count {zs : List (List UInt8)} (h : zs.Pairwise (· ≤ ·)) {x : List UInt8} (hx : x ∈ zs) : (Lib.compact zs).count x = 1 :=
  count_nodup (compact_nodup h) (compact_mem hx)

end Go.Proofs.YthpkfgjjaieikaaGreatDoor
