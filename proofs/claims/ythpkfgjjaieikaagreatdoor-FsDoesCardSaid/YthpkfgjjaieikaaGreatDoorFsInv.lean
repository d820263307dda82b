/-
  What every script keeps of the files: their paths are valid, none lies below another, each is there once. No program is walked here, and nothing is assumed.
-/
import Derived.Test.YthpkfgjjaieikaaGreatDoorFsSort
namespace Go.Proofs.YthpkfgjjaieikaaGreatDoor
open Go.RowKit Go.Shelf Go.Lib Go.Maps

structure Inv (es : List Ent) : Prop where
  good : ∀ x ∈ es, goodP x.path = true
  apart : ∀ x ∈ es, ∀ y ∈ es, belowP x.path y.path = false
  once : (es.map (·.path)).Nodup
theorem inv_nil : Inv [] := ⟨(fun _ h => by cases h), (fun _ h => by cases h), by simp⟩
theorem good_ne {p : List UInt8} (h : goodP p = true) : p ≠ [47] := fun e => by rw [e] at h; revert h; decide
theorem below_self {p : List UInt8} (h : goodP p = true) : belowP p p = false := by
  cases hb : belowP p p with
  | false => rfl
  | true =>
    obtain ⟨r, hr⟩ := (below_iff (good_ne h)).1 hb
    have := congrArg List.length hr
    simp at this
theorem inv_del {es : List Ent} (h : Inv es) (p : List UInt8) : Inv (delE p es) :=
  ⟨fun x hx => h.good x (mem_delE.1 hx).1, fun x hx y hy => h.apart x (mem_delE.1 hx).1 y (mem_delE.1 hy).1, by
    have hs : (delE p es).Sublist es := List.filter_sublist
    exact (hs.map _).nodup h.once⟩
theorem once_ins {x : Ent} {l : List Ent} (h : (l.map (·.path)).Nodup) (hx : ∀ y ∈ l, y.path ≠ x.path) : ((insE x l).map (·.path)).Nodup := by
  induction l with
  | nil => simp [insE]
  | cons y r ih =>
    have hcons := h
    rw [List.map_cons, List.nodup_cons] at h
    simp only [insE]
    split
    · rw [List.map_cons, List.nodup_cons]
      refine ⟨fun hm => ?_, hcons⟩
      obtain ⟨z, hz, e⟩ := List.mem_map.1 hm
      exact hx z hz e
    · rw [List.map_cons, List.nodup_cons]
      refine ⟨fun hm => ?_, ih h.2 fun z hz => hx z (List.mem_cons_of_mem _ hz)⟩
      obtain ⟨z, hz, e⟩ := List.mem_map.1 hm
      rcases mem_insE.1 hz with rfl | hz
      · exact hx y List.mem_cons_self e.symm
      · exact h.1 (List.mem_map.2 ⟨z, hz, e⟩)
theorem inv_put {es : List Ent} (h : Inv es) {x : Ent} (hg : goodP x.path = true) (ha : ∀ y ∈ es, y.path ≠ x.path → belowP x.path y.path = false ∧ belowP y.path x.path = false) : Inv (putE x es) := by
  refine ⟨fun y hy => ?_, fun y hy z hz => ?_, once_ins (inv_del h x.path).once fun y hy => (mem_delE.1 hy).2⟩
  · rcases mem_putE.1 hy with rfl | ⟨hy, _⟩
    · exact hg
    · exact h.good y hy
  · rcases mem_putE.1 hy with rfl | ⟨hy', hyp⟩ <;> rcases mem_putE.1 hz with rfl | ⟨hz', hzp⟩
    · exact below_self hg
    · exact (ha z hz' hzp).1
    · exact (ha y hy' hyp).2
    · exact h.apart y hy' z hz'
theorem blocks_not {es : List Ent} {p ex : List UInt8} (h : (es.any fun x => blocks p ex x.path) ≠ true) : ∀ y ∈ es, y.path ≠ ex → belowP p y.path = false ∧ belowP y.path p = false := fun y hy hne => by
  have := List.any_eq_false.1 (by simpa using h) y hy
  have he : (y.path == ex) = false := by simpa using hne
  simp only [blocks, he, Bool.not_false, Bool.true_and, Bool.or_eq_true, not_or, Bool.not_eq_true] at this
  exact this
theorem inv_puts {es es' : List Ent} {s : St} {p c : List UInt8} {m : Bool} (hi : Inv es) (h : PutEs es p (putP es s p c m).2.1 es') : Inv es' := by
  unfold putP at h
  split at h
  · rw [show es' = es from h]; exact hi
  · next h0 =>
    split at h
    · rw [show es' = es from h]; exact hi
    · next hn =>
      obtain ⟨v, rfl⟩ := h
      have hk : checkP es p (((putP.oldP es p m).length : Int) + c.length) = 0 := Decidable.byContradiction fun e => hn (.inl e)
      have hg : goodP p = true := by
        have h0' : (countP s (goodP p)).2.1 = 0 := Decidable.byContradiction h0
        refine (count_good (s := s) (f := (countP s (goodP p)).1) (s1 := (countP s (goodP p)).2.2) ?_).1
        rw [← h0']
      refine inv_put hi hg (blocks_not (ex := p) fun ho => ?_)
      unfold checkP at hk
      rw [if_pos ho] at hk
      cases hk
theorem inv_one {es es' : List Ent} {s s' : St} {o : OpD} {r : Int} (hi : Inv es) (h : OneRes es s o r es' s') : Inv es' := by
  unfold OneRes at h
  split at h
  · rw [h.2.1]; exact hi
  split at h
  · exact inv_puts hi h.2.2
  split at h
  · exact inv_puts hi h.2.2
  split at h
  · have e : es' = (renameP es s o.p o.q).2.1 := by rw [← h]
    rw [e]
    unfold renameP
    split
    · exact hi
    · next h0 =>
      split
      · exact hi
      · split
        · exact hi
        · next hb =>
          cases hf : findE es o.p with
          | none => exact hi
          | some x =>
            have h0' : (startP s (goodP o.p && goodP o.q)).1 = 0 := Decidable.byContradiction h0
            have hg := start_zero (s := s) (g := goodP o.p && goodP o.q) (s1 := (startP s (goodP o.p && goodP o.q)).2) (by rw [← h0'])
            rw [Bool.and_eq_true] at hg
            exact inv_put (inv_del hi o.p) (x := ⟨o.q, x.val, x.data⟩) hg.2 fun y hy hne => blocks_not hb y (mem_delE.1 hy).1 (mem_delE.1 hy).2
  split at h
  · have e : es' = (removeP es s o.p).2.1 := by rw [← h]
    rw [e]
    unfold removeP
    split
    · exact hi
    · split
      · exact hi
      · exact inv_del hi _
  split at h
  · rw [h.2.1]; exact hi
  split at h
  · rw [h.2.1]; exact hi
  split at h
  · rw [h.2.1]; exact hi
  · rw [h.2.1]; exact hi

/-- the names of a path that is made of two -/
theorem names_append (a b : List UInt8) : names (a ++ 47 :: b) = names a ++ names b := by
  induction a with
  | nil => simp [names]
  | cons c a ih =>
    by_cases hc : c = 47
    · subst hc
      simp only [List.cons_append, names, if_true, ih]
    · rw [List.cons_append, names_cons c _ hc, names_cons c _ hc, ih]
      cases hn : names a with
      | nil => exact absurd hn (names_ne a)
      | cons n t => rfl
/-- a valid path, cut at a slash of its own -/
theorem good_dir {p : List UInt8} {a : Nat} (hg : goodP p = true) (h1 : 1 ≤ a) (ha : p[a]? = some 47) : p = p.take a ++ 47 :: p.drop (a + 1) ∧ goodP (p.take a) = true := by
  have hlt : a < p.length := (List.getElem?_eq_some_iff.1 ha).1
  have he : p[a] = 47 := (List.getElem?_eq_some_iff.1 ha).2
  have hp : p = p.take a ++ 47 :: p.drop (a + 1) := by
    have := (List.take_append_drop a p).symm
    rw [List.drop_eq_getElem_cons hlt, he] at this
    exact this
  refine ⟨hp, ?_⟩
  cases p with
  | nil => simp at ha
  | cons c t =>
    obtain ⟨k, rfl⟩ : ∃ k, a = k + 1 := ⟨a - 1, by omega⟩
    have hc : c = 47 := by
      unfold goodP at hg
      split at hg
      · next heq => injection heq
      · cases hg
    subst hc
    rw [goodP_root, Bool.and_eq_true, decide_eq_true_eq] at hg
    rw [List.take_succ_cons, goodP_root, Bool.and_eq_true, decide_eq_true_eq]
    have ht : t = t.take k ++ 47 :: t.drop (k + 1) := by
      rw [List.take_succ_cons, List.cons_append] at hp
      injection hp
    rw [ht, names_append, List.all_append, Bool.and_eq_true] at hg
    exact ⟨by rw [List.length_take]; have := hg.1; simp at this; omega, hg.2.1⟩

/-- a directory of a file: it is one, and its list has the file's name once -/
theorem tree_dir {es : List Ent} (hi : Inv es) {x : Ent} (hx : x ∈ es) {a : Nat} (h1 : 1 ≤ a) (ha : x.path[a]? = some 47) :
    goodP (x.path.take a) = true ∧ isP es (x.path.take a) = (false, true) ∧ (Lib.compact (namesOf (x.path.take a) (pathsOf es))).count (headP (x.path.drop (a + 1))) = 1 := by
  obtain ⟨hp, hg⟩ := good_dir (hi.good x hx) h1 ha
  have hd := good_ne hg
  have hb : belowP (x.path.take a) x.path = true := (below_iff hd).2 ⟨_, hp⟩
  refine ⟨hg, ?_, ?_⟩
  · have hf : findE es (x.path.take a) = none := by
      cases hf : findE es (x.path.take a) with
      | none => rfl
      | some y =>
        obtain ⟨hy, hyp⟩ := findE_mem hf
        have := hi.apart y hy x hx
        rw [hyp, hb] at this
        cases this
    have hany : (es.any fun x' => belowP (x.path.take a) x'.path) = true := List.any_eq_true.2 ⟨x, hx, hb⟩
    rw [isP, if_neg hd, if_neg (by rw [hg]; simp), hf, hany]
    rfl
  · refine compact_count (namesOf_sorted hd (pathsOf_sorted es)) ?_
    unfold namesOf
    rw [List.mem_filterMap]
    refine ⟨x.path, ?_, ?_⟩
    · unfold pathsOf
      rw [List.mem_mergeSort, List.mem_map]
      exact ⟨x, hx, rfl⟩
    · have he : entryP (x.path.take a) x.path = (headP (x.path.drop (a + 1)), true) := by
        have := entry_below (r := x.path.drop (a + 1)) hd
        rw [← hp] at this
        exact this
      rw [he]
      rfl

end Go.Proofs.YthpkfgjjaieikaaGreatDoor
