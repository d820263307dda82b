/-
  The names of a directory, put one by one into a list that rises: those that the program gives. No program is walked here, and nothing is assumed.
-/
import Derived.Test.YthpkfgjjaieikaaGreatDoorFsDoesP
namespace Go.Proofs.YthpkfgjjaieikaaGreatDoor
open Go.RowKit Go.Shelf Go.Lib Go.Maps Go.Sort

/-- how many names come ahead of one -/
def aheadN (l : List (List UInt8)) (n : List UInt8) : Nat := l.findIdx fun x => !Op.bytesLess x n
/-- a name put into a list, once -/
def insN (l : List (List UInt8)) (n : List UInt8) : List (List UInt8) := if l[aheadN l n]? = some n then l else l.take (aheadN l n) ++ n :: l.drop (aheadN l n)
theorem aheadN_le (l : List (List UInt8)) (n : List UInt8) : aheadN l n ≤ l.length := List.findIdx_le_length
theorem insN_le (l : List (List UInt8)) (n : List UInt8) : (insN l n).length ≤ l.length + 1 := by
  unfold insN
  split
  · omega
  · have := aheadN_le l n
    simp
    omega

theorem getBang {α : Type} [Inhabited α] (l : List α) (j : Nat) : l.toArray[j]! = l[j]! := by simp
theorem compact_snoc (l : List (List UInt8)) (x : List UInt8) : Lib.compact (l ++ [x]) = if l.getLast? = some x then Lib.compact l else Lib.compact l ++ [x] := by
  unfold Lib.compact Lib.compactUpTo
  rw [List.length_append, List.length_singleton, List.range_succ, List.filter_append, List.map_append]
  have h1 : ((List.range l.length).filter (keeps (l ++ [x]).toArray)).map ((l ++ [x]).toArray[·]!) = ((List.range l.length).filter (keeps l.toArray)).map (l.toArray[·]!) := by
    have hk : ∀ j ∈ List.range l.length, keeps (l ++ [x]).toArray j = keeps l.toArray j := fun j hj => by
      have hj' := List.mem_range.1 hj
      unfold keeps
      rw [getBang, getBang, getBang, getBang]
      rw [getElem!_pos (l ++ [x]) j (by simp; omega), getElem!_pos (l ++ [x]) (j - 1) (by simp; omega), getElem!_pos l j hj', getElem!_pos l (j - 1) (by omega), List.getElem_append_left hj', List.getElem_append_left (by omega)]
    rw [List.filter_congr hk]
    refine List.map_congr_left fun j hj => ?_
    have hj' := List.mem_range.1 (List.mem_filter.1 hj).1
    rw [getBang, getBang, getElem!_pos (l ++ [x]) j (by simp; omega), getElem!_pos l j hj', List.getElem_append_left hj']
  rw [h1]
  have h2 : keeps (l ++ [x]).toArray l.length = !decide (l.getLast? = some x) := by
    unfold keeps
    rw [getBang, getBang]
    cases hl : l.length with
    | zero =>
      have : l = [] := List.eq_nil_of_length_eq_zero hl
      subst this
      simp
    | succ n =>
      rw [getElem!_pos (l ++ [x]) (n + 1) (by simp; omega), getElem!_pos (l ++ [x]) (n + 1 - 1) (by simp; omega), List.getElem_append_right (by omega), List.getElem_append_left (by omega)]
      have hlast : l.getLast? = some l[n + 1 - 1] := by
        have hm : l.length - 1 = n + 1 - 1 := by omega
        rw [List.getLast?_eq_getElem?, hm]
        exact List.getElem?_eq_getElem _
      rw [hlast]
      simp only [hl, Nat.sub_self, List.getElem_cons_zero, Option.some.injEq]
      by_cases he : l[n] = x
      · simp [he]
      · have he' : x ≠ l[n] := fun e => he e.symm
        simp [he, he']
  have hx : (l ++ [x]).toArray[l.length]! = x := by
    rw [getBang, getElem!_pos (l ++ [x]) l.length (by simp), List.getElem_append_right (Nat.le_refl _)]
    simp
  by_cases h : l.getLast? = some x
  · rw [if_pos h]
    have : keeps (l ++ [x]).toArray l.length = false := by rw [h2]; simp [h]
    simp [this]
  · rw [if_neg h]
    have : keeps (l ++ [x]).toArray l.length = true := by rw [h2]; simp [h]
    simp only [List.filter_cons, this, if_true, List.filter_nil, List.map_cons, List.map_nil, hx]

/-- of a sorted list: what is kept rises, ends as the list ends, and is no greater -/
theorem snoc_ind {α : Type} {P : List α → Prop} (h0 : P []) (h1 : ∀ l x, P l → P (l ++ [x])) (l : List α) : P l := by
  have : ∀ l : List α, P l.reverse := fun l => by
    induction l with
    | nil => exact h0
    | cons x r ih => rw [List.reverse_cons]; exact h1 _ _ ih
  have h := this l.reverse
  rwa [List.reverse_reverse] at h
theorem compact_last (l : List (List UInt8)) : (Lib.compact l).getLast? = l.getLast? := by
  refine snoc_ind (P := fun l => (Lib.compact l).getLast? = l.getLast?) rfl (fun l x ih => ?_) l
  show (Lib.compact (l ++ [x])).getLast? = (l ++ [x]).getLast?
  rw [compact_snoc]
  by_cases h : l.getLast? = some x
  · rw [if_pos h, ih, h]; simp
  · rw [if_neg h]; simp
theorem compact_sub (l : List (List UInt8)) : ∀ y ∈ Lib.compact l, y ∈ l := by
  refine snoc_ind (P := fun l => ∀ y ∈ Lib.compact l, y ∈ l) (fun y hy => by simp [Lib.compact, Lib.compactUpTo] at hy) (fun l x ih y hy => ?_) l
  rw [compact_snoc] at hy
  split at hy
  · exact List.mem_append_left _ (ih y hy)
  · rcases List.mem_append.1 hy with hy | hy
    · exact List.mem_append_left _ (ih y hy)
    · exact List.mem_append_right _ hy
theorem compact_rises {l : List (List UInt8)} (h : l.Pairwise (· ≤ ·)) : (Lib.compact l).Pairwise (· < ·) := by
  refine snoc_ind (P := fun l => l.Pairwise (· ≤ ·) → (Lib.compact l).Pairwise (· < ·)) (fun _ => by simp [Lib.compact, Lib.compactUpTo]) (fun l x ih h => ?_) l h
  rw [List.pairwise_append] at h
  obtain ⟨h1, _, h3⟩ := h
  rw [compact_snoc]
  split
  · exact ih h1
  · next hne =>
    rw [List.pairwise_append]
    refine ⟨ih h1, by simp, fun a ha b hb => ?_⟩
    obtain rfl : b = x := by simpa using hb
    have hle : a ≤ b := h3 a (compact_sub l a ha) b (by simp)
    by_cases hlt : a < b
    · exact hlt
    · exfalso
      have hab : a = b := List.le_antisymm hle (List.not_lt.1 hlt)
      subst hab
      -- a lies in the list, and all that follows is no greater: the last is a
      have hl : Lib.compact l ≠ [] := List.ne_nil_of_mem ha
      obtain ⟨z, hz⟩ : ∃ z, l.getLast? = some z := by
        cases hg : l.getLast? with
        | none =>
          rw [List.getLast?_eq_none_iff] at hg
          subst hg
          exact absurd ha (by simp [Lib.compact, Lib.compactUpTo])
        | some z => exact ⟨z, rfl⟩
      have hzc : (Lib.compact l).getLast? = some z := by rw [compact_last]; exact hz
      obtain ⟨init, hinit⟩ : ∃ init, Lib.compact l = init ++ [z] := by
        rw [List.getLast?_eq_some_iff] at hzc
        exact hzc
      have hzl : z ≤ a := h3 z (List.mem_of_getLast? hz) a (by simp)
      have hzne : z ≠ a := fun e => hne (by rw [hz, e])
      have hr := ih h1
      rw [hinit, List.pairwise_append] at hr
      rw [hinit, List.mem_append] at ha
      rcases ha with ha | ha
      · have := hr.2.2 a ha z (by simp)
        exact hzne (List.le_antisymm hzl (List.le_of_lt this))
      · exact hzne (Eq.symm (by simpa using ha))
theorem aheadN_all {l : List (List UInt8)} {n : List UInt8} (h : ∀ x ∈ l, x < n) : aheadN l n = l.length := by
  unfold aheadN
  rw [List.findIdx_eq_length]
  intro x hx
  rw [bytesLess_eq]
  simpa using h x hx
theorem insN_sorted {l : List (List UInt8)} {x : List UInt8} (h : (l ++ [x]).Pairwise (· ≤ ·)) : insN (Lib.compact l) x = Lib.compact (l ++ [x]) := by
  rw [compact_snoc]
  rw [List.pairwise_append] at h
  obtain ⟨h1, _, h3⟩ := h
  have hr := compact_rises h1
  by_cases hl : l.getLast? = some x
  · rw [if_pos hl]
    have hc : (Lib.compact l).getLast? = some x := by rw [compact_last]; exact hl
    obtain ⟨init, hinit⟩ := List.getLast?_eq_some_iff.1 hc
    rw [hinit, List.pairwise_append] at hr
    have hlt : ∀ y ∈ init, y < x := fun y hy => hr.2.2 y hy x (by simp)
    have ha : aheadN (Lib.compact l) x = init.length := by
      rw [hinit]
      unfold aheadN
      rw [List.findIdx_append]
      have h0 := aheadN_all hlt
      unfold aheadN at h0
      rw [h0, if_neg (Nat.lt_irrefl _)]
      have : Op.bytesLess x x = false := by rw [bytesLess_eq]; simp [List.lt_irrefl]
      simp [List.findIdx_cons, this]
    unfold insN
    rw [ha, if_pos]
    rw [hinit]
    simp
  · rw [if_neg hl]
    have hlt : ∀ y ∈ Lib.compact l, y < x := fun y hy => by
      have hle := h3 y (compact_sub l y hy) x (by simp)
      by_cases hy' : y < x
      · exact hy'
      · exfalso
        have hyx : y = x := List.le_antisymm hle (List.not_lt.1 hy')
        subst hyx
        obtain ⟨z, hz⟩ : ∃ z, (Lib.compact l).getLast? = some z := by
          cases hg : (Lib.compact l).getLast? with
          | none => rw [List.getLast?_eq_none_iff] at hg; rw [hg] at hy; cases hy
          | some z => exact ⟨z, rfl⟩
        obtain ⟨init, hinit⟩ := List.getLast?_eq_some_iff.1 hz
        rw [compact_last] at hz
        have hzy : z ≤ y := h3 z (List.mem_of_getLast? hz) y (by simp)
        have hzne : z ≠ y := fun e => hl (by rw [hz, e])
        rw [hinit, List.pairwise_append] at hr
        rw [hinit, List.mem_append] at hy
        rcases hy with hy | hy
        · exact hzne (List.le_antisymm hzy (List.le_of_lt (hr.2.2 y hy z (by simp))))
        · exact hzne (Eq.symm (by simpa using hy))
    have ha := aheadN_all hlt
    unfold insN
    rw [ha, if_neg (by simp)]
    simp

/-- a path lies below a directory, as the document says it -/
def belowR (d p : List UInt8) : Bool := d == [47] || belowP d p
/-- the name of what lies below a directory -/
def nameR (d p : List UInt8) : List UInt8 := headP (p.drop (if d = [47] then 1 else d.length + 1))
/-- the names of a directory, put one by one -/
def namesR (d : List UInt8) (ps : List (List UInt8)) : List (List UInt8) := ps.foldl (fun l p => if belowR d p then insN l (nameR d p) else l) []
theorem below_root {p : List UInt8} (h : goodP p = true) : belowP [47] p = true := by
  unfold goodP at h
  split at h
  · simp [belowP, hasPrefix]
  · cases h
theorem good_second {r : List UInt8} (h : goodP (47 :: r) = true) : r[0]? ≠ some 47 := by
  rw [goodP_root, Bool.and_eq_true] at h
  intro e
  cases r with
  | nil => simp at e
  | cons c t =>
    simp at e
    subst e
    have := h.2
    simp [names, nameOk] at this
theorem entry_is {d p : List UInt8} (hg : goodP p = true) (hd : belowR d p = true) : entryP d p = (nameR d p, true) := by
  by_cases h : d = [47]
  · subst h
    have hb := below_root hg
    obtain ⟨r, rfl⟩ : ∃ r, p = 47 :: r := by
      unfold goodP at hg
      split at hg
      · exact ⟨_, rfl⟩
      · cases hg
    have hs := good_second hg
    unfold entryP
    rw [hb, if_neg (by simp)]
    have ht : Lib.trimPrefix ((47 :: r).drop ([47] : List UInt8).length) [47] = r := by
      show Lib.trimPrefix r [47] = r
      unfold Lib.trimPrefix
      have : hasPrefix r [47] = false := by
        cases r with
        | nil => rfl
        | cons c t =>
          simp at hs
          simp [hasPrefix, List.isPrefixOf, Ne.symm hs]
      rw [if_neg (by rw [this]; simp)]
    rw [ht, ← headP_cutP]
    simp [nameR]
  · have hb : belowP d p = true := by
      unfold belowR at hd
      simpa [h] using hd
    obtain ⟨r, rfl⟩ := (below_iff h).1 hb
    rw [entry_below h]
    unfold nameR
    rw [if_neg h]
    have : (d ++ 47 :: r).drop (d.length + 1) = r := by
      rw [← List.drop_drop, List.drop_left]
      rfl
    rw [this]
theorem entry_no {d p : List UInt8} (hd : belowR d p = false) : (entryP d p).2 = false := by
  unfold belowR at hd
  rw [Bool.or_eq_false_iff] at hd
  exact entry_not hd.2
theorem nameR_le {d p q : List UInt8} (hp : goodP p = true) (hq : goodP q = true) (hdp : belowR d p = true) (hdq : belowR d q = true) (h : p ≤ q) : nameR d p ≤ nameR d q := by
  by_cases hd : d = [47]
  · subst hd
    obtain ⟨r, rfl⟩ : ∃ r, p = 47 :: r := by
      unfold goodP at hp
      split at hp
      · exact ⟨_, rfl⟩
      · cases hp
    obtain ⟨s, rfl⟩ : ∃ s, q = 47 :: s := by
      unfold goodP at hq
      split at hq
      · exact ⟨_, rfl⟩
      · cases hq
    have := append_le (d := [47]) (a := r) (b := s) h
    exact headP_le this
  · have hbp : belowP d p = true := by unfold belowR at hdp; simpa [hd] using hdp
    have hbq : belowP d q = true := by unfold belowR at hdq; simpa [hd] using hdq
    obtain ⟨r, rfl⟩ := (below_iff hd).1 hbp
    obtain ⟨s, rfl⟩ := (below_iff hd).1 hbq
    have e : ∀ r : List UInt8, nameR d (d ++ 47 :: r) = headP r := fun r => by
      unfold nameR
      rw [if_neg hd, ← List.drop_drop, List.drop_left]
      rfl
    rw [e, e]
    have := append_le h
    rw [List.cons_le_cons_iff] at this
    rcases this with h | ⟨_, h⟩
    · exact absurd h (UInt8.lt_irrefl _)
    · exact headP_le h
theorem namesOf_good {d : List UInt8} {ps : List (List UInt8)} (hg : ∀ p ∈ ps, goodP p = true) : namesOf d ps = (ps.filter (belowR d)).map (nameR d) := by
  induction ps with
  | nil => rfl
  | cons p r ih =>
    have hr := ih fun q hq => hg q (List.mem_cons_of_mem _ hq)
    unfold namesOf at hr ⊢
    rw [List.filterMap_cons, hr]
    cases hb : belowR d p with
    | true => rw [entry_is (hg p List.mem_cons_self) hb]; simp [hb]
    | false => rw [entry_no hb]; simp [hb]
/-- one by one they come to what the program gives -/
theorem namesR_is {d : List UInt8} {ps : List (List UInt8)} (hg : ∀ p ∈ ps, goodP p = true) (hs : ps.Pairwise (· ≤ ·)) : namesR d ps = Lib.compact (namesOf d ps) := by
  refine snoc_ind (P := fun ps => (∀ p ∈ ps, goodP p = true) → ps.Pairwise (· ≤ ·) → namesR d ps = Lib.compact (namesOf d ps)) (fun _ _ => rfl) (fun l p ih hg hs => ?_) ps hg hs
  have hgl : ∀ q ∈ l, goodP q = true := fun q hq => hg q (List.mem_append_left _ hq)
  have hgp : goodP p = true := hg p (by simp)
  have hsl := (List.pairwise_append.1 hs).1
  have e := ih hgl hsl
  unfold namesR at e ⊢
  rw [List.foldl_append, e]
  simp only [List.foldl_cons, List.foldl_nil]
  rw [namesOf_append]
  cases hb : belowR d p with
  | false =>
    have : namesOf d [p] = [] := by simp [namesOf, entry_no hb]
    rw [this, List.append_nil]
    simp
  | true =>
    have : namesOf d [p] = [nameR d p] := by simp [namesOf, entry_is hgp hb]
    rw [this, if_pos rfl]
    refine insN_sorted ?_
    rw [namesOf_good hgl, List.pairwise_append]
    refine ⟨?_, by simp, fun a ha b hb' => ?_⟩
    · rw [List.pairwise_map]
      have hf : (l.filter (belowR d)).Pairwise (fun x y => x ≤ y ∧ x ∈ l.filter (belowR d) ∧ y ∈ l.filter (belowR d)) := by
        have := hsl.filter (belowR d)
        rw [List.pairwise_iff_getElem] at this ⊢
        exact fun i j hi hj hij => ⟨this i j hi hj hij, List.getElem_mem _, List.getElem_mem _⟩
      exact hf.imp fun {x y} ⟨h1, h2, h3⟩ => nameR_le (hgl x (List.mem_filter.1 h2).1) (hgl y (List.mem_filter.1 h3).1) (List.mem_filter.1 h2).2 (List.mem_filter.1 h3).2 h1
    · obtain rfl : b = nameR d p := by simpa using hb'
      obtain ⟨x, hx, rfl⟩ := List.mem_map.1 ha
      have hx' := List.mem_filter.1 hx
      exact nameR_le (hgl x hx'.1) hgp hx'.2 hb ((List.pairwise_append.1 hs).2.2 x hx'.1 p (by simp))

end Go.Proofs.YthpkfgjjaieikaaGreatDoor
