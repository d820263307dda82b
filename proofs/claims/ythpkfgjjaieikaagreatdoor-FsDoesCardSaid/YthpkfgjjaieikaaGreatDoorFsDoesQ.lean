/-
  What the document's file system answers, as plain functions, and that it is what the program's does. No program is walked here, and nothing is assumed.
-/
import Derived.Test.YthpkfgjjaieikaaGreatDoorFsDoesN
namespace Go.Proofs.YthpkfgjjaieikaaGreatDoor
open Go.RowKit Go.Shelf Go.Lib Go.Maps Go.Sort

def dirR (fs : List Ent) (p : List UInt8) : Bool := (fs.any fun x => belowR p x.path) || p == [47]
def fileR (fs : List Ent) (p : List UInt8) : Int := if dirR fs p then 24 else if (findE fs p).isSome then 0 else 4
def freeR (fs : List Ent) (p : List UInt8) : Int := if dirR fs p then 24 else if (fs.any fun x => belowR x.path p) then 24 else 0
def isR (fs : List Ent) (p : List UInt8) : Bool × Bool := ((findE fs p).isSome, (p == [47] || goodP p) && dirR fs p)
def startR (r : RSt) (good : Bool) : Int × RSt :=
  if r.down then (22, r) else if !good then (23, r)
  else if (callR r).1 ≠ 0 then goesR (callR r).1 (callR r).2 else (0, (callR r).2)
def readR (fs : List Ent) (r : RSt) (p : List UInt8) : List UInt8 × Int × RSt :=
  if (startR r (goodP p)).1 ≠ 0 then ([], startR r (goodP p))
  else if fileR fs p ≠ 0 then ([], fileR fs p, (startR r (goodP p)).2)
  else ((lookR fs p).getD [], 0, (startR r (goodP p)).2)
def removeR (fs : List Ent) (r : RSt) (p : List UInt8) : Int × List Ent × RSt :=
  if (startR r (goodP p)).1 ≠ 0 then ((startR r (goodP p)).1, fs, (startR r (goodP p)).2)
  else if fileR fs p ≠ 0 then (fileR fs p, fs, (startR r (goodP p)).2)
  else (0, delE p fs, (startR r (goodP p)).2)
def listR (fs : List Ent) (r : RSt) (d : List UInt8) : List (List UInt8) × Int × RSt :=
  if (startR r (d == [47] || goodP d)).1 ≠ 0 then ([], startR r (d == [47] || goodP d))
  else if (findE fs d).isSome then ([], 24, (startR r (d == [47] || goodP d)).2)
  else if !dirR fs d then ([], 4, (startR r (d == [47] || goodP d)).2)
  else (namesR d (fs.map (·.path)), 0, (startR r (d == [47] || goodP d)).2)
/-- what a file has ahead of an append -/
def hadR (fs : List Ent) (p : List UInt8) (more : Bool) : List UInt8 := if more then (lookR fs p).getD [] else []
def fitR (fs : List Ent) (p : List UInt8) (n h : Nat) : Int :=
  if freeR fs p = 0 ∧ ((1048576 : Int) - (h : Int) < (n : Int) ∨ ((findE fs p).isSome = false ∧ 4096 ≤ fs.length)) then 3 else freeR fs p
def cutR (k keep : Int) (c : List UInt8) : List UInt8 := if k ≠ 0 ∧ keep < (c.length : Int) then c.take keep.toNat else c
def writesR (fs : List Ent) (r : RSt) (p c : List UInt8) (more : Bool) : Int × Option (List UInt8) × RSt :=
  if r.down then (22, none, r) else if !goodP p then (23, none, r)
  else if (callR r).1 = 1 then (20, none, (callR r).2)
  else
    ((if (callR r).1 ≠ 0 then (goesR (callR r).1 (callR r).2).1 else fitR fs p c.length (hadR fs p more).length),
     (if fitR fs p c.length (hadR fs p more).length = 0 then some (hadR fs p more ++ cutR (callR r).1 r.keep c) else none),
     (if (callR r).1 ≠ 0 then (goesR (callR r).1 (callR r).2).2 else (callR r).2))
def renameR (fs : List Ent) (r : RSt) (p q : List UInt8) : Int × Option (List UInt8) × RSt :=
  if (startR r (goodP p && goodP q)).1 ≠ 0 then ((startR r (goodP p && goodP q)).1, none, (startR r (goodP p && goodP q)).2)
  else if fileR fs p ≠ 0 then (fileR fs p, none, (startR r (goodP p && goodP q)).2)
  else if freeR (delE p fs) q ≠ 0 then (freeR (delE p fs) q, none, (startR r (goodP p && goodP q)).2)
  else (0, lookR fs p, (startR r (goodP p && goodP q)).2)
def setR (r : RSt) (k i j : Int) : Int × RSt :=
  if k < 0 ∨ i < 0 ∨ 3 < i ∨ j < 0 then (1, r) else if r.down then (22, r) else (0, { r with count := if i = 0 then 0 else k, kind := i, keep := j })
def restartR (r : RSt) : Int × RSt := if r.down then (0, { r with down := false }) else (1, r)

theorem start_rel {s : St} {r : RSt} (h : StRel s r) (ho : StOk s) (g : Bool) : (startR r g).1 = (startP s g).1 ∧ StRel (startP s g).2 (startR r g).2 := by
  have hdn := h.2.2.2.1
  unfold startR startP
  rw [hdn]
  cases hd : s.down with
  | true => simp; exact h
  | false =>
    cases g with
    | false => simp; exact h
    | true =>
      have CR := call_rel h ho hd
      simp only [hd] at CR
      obtain ⟨c1, c2, c3, c4, c5⟩ := CR
      by_cases hk : (callR r).1 = 0
      · simp only [Bool.not_true, Bool.false_eq_true, if_false, hk, ne_eq, not_true_eq_false]
        rw [← c1, hk]
        exact ⟨rfl, c4 hk⟩
      · simp only [Bool.not_true, Bool.false_eq_true, if_false, hk, ne_eq, not_false_eq_true, if_true]
        obtain ⟨d1, d2, d3⟩ := c5 hk
        rw [← c1]
        exact ⟨d2, d3⟩
theorem start_one (s : St) (g : Bool) (h : (startP s g).1 = 0) : g = true := (start_zero (s := s) (g := g) (s1 := (startP s g).2) (by rw [← h]))
theorem belowR_good {d p : List UInt8} (h : goodP d = true) : belowR d p = belowP d p := by
  have : (d == [47]) = false := by simpa using good_ne h
  rw [belowR, this, Bool.false_or]
theorem findE_good {es : List Ent} (hi : Inv es) {p : List UInt8} (h : goodP p = false) : findE es p = none := by
  cases hf : findE es p with
  | none => rfl
  | some x =>
    obtain ⟨h1, h2⟩ := findE_mem hf
    have := hi.good x h1
    rw [h2, h] at this
    cases this
theorem Alike.good {es fs : List Ent} (h : Alike es fs) (hi : Inv es) : ∀ x ∈ fs, goodP x.path = true := fun x hx => by
  have : x.path ∈ es.map (·.path) := by rw [h.paths]; exact List.mem_map_of_mem hx
  obtain ⟨y, hy, e⟩ := List.mem_map.1 this
  rw [← e]
  exact hi.good y hy
theorem dir_rel {es fs : List Ent} (ha : Alike es fs) {p : List UInt8} (hg : goodP p = true) : dirR fs p = es.any fun x => belowP p x.path := by
  have : (p == [47]) = false := by simpa using good_ne hg
  unfold dirR
  rw [this, Bool.or_false, ← ha.any (belowR p)]
  congr 1
  funext x
  exact belowR_good hg
theorem no_dir {es : List Ent} (hi : Inv es) {p : List UInt8} (h : (findE es p).isSome = true) : (es.any fun x => belowP p x.path) = false := by
  obtain ⟨y, hy⟩ := Option.isSome_iff_exists.1 h
  obtain ⟨h1, h2⟩ := findE_mem hy
  rw [List.any_eq_false]
  intro x hx
  rw [← h2, hi.apart y h1 x hx]
  simp
theorem is_rel {es fs : List Ent} (hi : Inv es) (ha : Alike es fs) (p : List UInt8) : isR fs p = isP es p := by
  unfold isR isP
  by_cases h1 : p = [47]
  · subst h1
    rw [if_pos rfl, ← ha.is, findE_good hi (by decide)]
    simp [dirR]
  · have hp : (p == [47]) = false := by simpa using h1
    rw [if_neg h1, hp, Bool.false_or]
    cases hg : goodP p with
    | false =>
      rw [if_pos rfl, ← ha.is, findE_good hi hg]
      simp
    | true =>
      rw [if_neg (by simp), dir_rel ha hg, ← ha.is]
      cases hs : (findE es p).isSome with
      | true => rw [no_dir hi hs]; simp
      | false => simp
theorem file_rel {es fs : List Ent} (hi : Inv es) (ha : Alike es fs) {p : List UInt8} (hg : goodP p = true) : fileR fs p = lookP es p := by
  unfold fileR lookP
  rw [dir_rel ha hg, ← ha.is]
  have : isP es p = ((findE es p).isSome, !(findE es p).isSome && es.any fun x => belowP p x.path) := by
    unfold isP
    rw [if_neg (good_ne hg), if_neg (by simp [hg])]
  rw [this]
  cases hs : (findE es p).isSome with
  | true => rw [no_dir hi hs]; simp
  | false => cases (es.any fun x => belowP p x.path) <;> simp
theorem read_rel {es fs : List Ent} {s : St} {r : RSt} (hi : Inv es) (ha : Alike es fs) (h : StRel s r) (ho : StOk s) (p : List UInt8) : (readR fs r p).1 = (readP es s p).1 ∧ (readR fs r p).2.1 = (readP es s p).2.1 ∧ StRel (readP es s p).2.2 (readR fs r p).2.2 := by
  obtain ⟨e1, e2⟩ := start_rel h ho (goodP p)
  unfold readR readP
  rw [e1]
  by_cases h0 : (startP s (goodP p)).1 = 0
  · have nh0 : ¬ ((startP s (goodP p)).1 ≠ 0) := fun e => e h0
    rw [if_neg nh0, if_neg nh0, file_rel hi ha (start_one s _ h0)]
    by_cases hl : lookP es p = 0
    · have nhl : ¬ (lookP es p ≠ 0) := fun e => e hl
      rw [if_neg nhl, if_neg nhl]
      refine ⟨?_, rfl, e2⟩
      rw [← ha.look]
      unfold lookR
      cases findE es p <;> rfl
    · rw [if_pos hl, if_pos hl]
      exact ⟨rfl, rfl, e2⟩
  · rw [if_pos h0, if_pos h0]
    exact ⟨rfl, e1, e2⟩
theorem remove_rel {es fs : List Ent} {s : St} {r : RSt} (hi : Inv es) (ha : Alike es fs) (h : StRel s r) (ho : StOk s) (p : List UInt8) : (removeR fs r p).1 = (removeP es s p).1 ∧ Alike (removeP es s p).2.1 (removeR fs r p).2.1 ∧ StRel (removeP es s p).2.2 (removeR fs r p).2.2 := by
  obtain ⟨e1, e2⟩ := start_rel h ho (goodP p)
  unfold removeR removeP
  rw [e1]
  by_cases h0 : (startP s (goodP p)).1 = 0
  · have nh0 : ¬ ((startP s (goodP p)).1 ≠ 0) := fun e => e h0
    rw [if_neg nh0, if_neg nh0, file_rel hi ha (start_one s _ h0)]
    by_cases hl : lookP es p = 0
    · have nhl : ¬ (lookP es p ≠ 0) := fun e => e hl
      rw [if_neg nhl, if_neg nhl]
      exact ⟨rfl, ha.del p, e2⟩
    · rw [if_pos hl, if_pos hl]
      exact ⟨rfl, ha, e2⟩
  · rw [if_pos h0, if_pos h0]
    exact ⟨rfl, ha, e2⟩
theorem list_rel {es fs : List Ent} {s : St} {r : RSt} (hi : Inv es) (hr : Rising es) (ha : Alike es fs) (h : StRel s r) (ho : StOk s) (p : List UInt8) : (listR fs r p).1 = (listP es s p).1 ∧ (listR fs r p).2.1 = (listP es s p).2.1 ∧ StRel (listP es s p).2.2 (listR fs r p).2.2 := by
  obtain ⟨e1, e2⟩ := start_rel h ho (p == [47] || goodP p)
  unfold listR listP
  rw [e1]
  by_cases h0 : (startP s (p == [47] || goodP p)).1 = 0
  · have hg := start_one s _ h0
    have hI := is_rel hi ha p
    unfold isR at hI
    rw [hg, Bool.true_and] at hI
    have nh0 : ¬ ((startP s (p == [47] || goodP p)).1 ≠ 0) := fun e => e h0
    rw [if_neg nh0, if_neg nh0, ← hI]
    simp only
    by_cases h1 : (findE fs p).isSome = true
    · rw [if_pos h1, if_pos h1]
      exact ⟨rfl, rfl, e2⟩
    · rw [if_neg h1, if_neg h1]
      by_cases h2 : (!dirR fs p) = true
      · rw [if_pos h2, if_pos h2]
        exact ⟨rfl, rfl, e2⟩
      · rw [if_neg h2, if_neg h2]
        refine ⟨?_, rfl, e2⟩
        show namesR p (fs.map (·.path)) = Lib.compact (namesOf p (pathsOf es))
        rw [← ha.paths, ← pathsOf_rising hr]
        refine namesR_is (fun q hq => ?_) (pathsOf_sorted es)
        unfold pathsOf at hq
        rw [List.mem_mergeSort, List.mem_map] at hq
        obtain ⟨x, hx, rfl⟩ := hq
        exact hi.good x hx
  · rw [if_pos h0, if_pos h0]
    exact ⟨rfl, e1, e2⟩
theorem free_rel {es fs : List Ent} (hi : Inv es) (ha : Alike es fs) {p : List UInt8} (hg : goodP p = true) : freeR fs p = if (es.any fun x => blocks p p x.path) = true then 24 else 0 := by
  unfold freeR
  rw [dir_rel ha hg, ← ha.any fun q => belowR q p]
  have hb : (es.any fun x => blocks p p x.path) = ((es.any fun x => belowP p x.path) || (es.any fun x => belowR x.path p)) := by
    rw [Bool.eq_iff_iff, Bool.or_eq_true, List.any_eq_true, List.any_eq_true, List.any_eq_true]
    constructor
    · rintro ⟨x, hx, h⟩
      unfold blocks at h
      rw [Bool.and_eq_true, Bool.or_eq_true] at h
      rcases h.2 with h2 | h2
      · exact .inl ⟨x, hx, h2⟩
      · exact .inr ⟨x, hx, by rw [belowR_good (hi.good x hx)]; exact h2⟩
    · rintro (⟨x, hx, h⟩ | ⟨x, hx, h⟩)
      · refine ⟨x, hx, ?_⟩
        have hne : (x.path == p) = false := by
          cases he : x.path == p with
          | false => rfl
          | true =>
            have he' : x.path = p := by simpa using he
            rw [he', below_self hg] at h
            cases h
        unfold blocks
        rw [hne, h]
        rfl
      · rw [belowR_good (hi.good x hx)] at h
        refine ⟨x, hx, ?_⟩
        have hne : (x.path == p) = false := by
          cases he : x.path == p with
          | false => rfl
          | true =>
            have he' : x.path = p := by simpa using he
            rw [he', below_self hg] at h
            cases h
        unfold blocks
        rw [hne, h]
        simp
  rw [hb]
  cases (es.any fun x => belowP p x.path) <;> cases (es.any fun x => belowR x.path p) <;> simp
theorem had_rel {es fs : List Ent} (ha : Alike es fs) (p : List UInt8) (m : Bool) : hadR fs p m = putP.oldP es p m := by
  unfold hadR putP.oldP
  rw [← ha.look]
  unfold lookR
  cases findE es p <;> rfl
theorem fit_rel {es fs : List Ent} (hi : Inv es) (ha : Alike es fs) {p : List UInt8} (hg : goodP p = true) (n h : Nat) : fitR fs p n h = checkP es p ((h : Int) + n) := by
  unfold fitR checkP
  rw [free_rel hi ha hg, ← ha.is, ← ha.len]
  by_cases hb : (es.any fun x => blocks p p x.path) = true
  · rw [if_pos hb, if_pos hb, if_neg (fun e => absurd e.1 (by decide))]
  · rw [if_neg hb, if_neg hb]
    by_cases hs : (1048576 : Int) < (h : Int) + n
    · rw [if_pos hs, if_pos ⟨rfl, .inl (by omega)⟩]
    · rw [if_neg hs]
      by_cases hf : (findE es p).isSome = false ∧ 4096 ≤ es.length
      · rw [if_pos hf, if_pos ⟨rfl, .inr hf⟩]
      · rw [if_neg hf, if_neg (by rintro ⟨_, h1 | h1⟩; omega; exact hf h1)]
theorem put_rel {es fs : List Ent} {s : St} {r : RSt} (hi : Inv es) (ha : Alike es fs) (h : StRel s r) (ho : StOk s) (p c : List UInt8) (m : Bool) :
    (writesR fs r p c m).1 = (putP es s p c m).1 ∧ (writesR fs r p c m).2.1 = (putP es s p c m).2.1 ∧ StRel (putP es s p c m).2.2 (writesR fs r p c m).2.2 := by
  have hdn := h.2.2.2.1
  have hkp := h.2.1
  unfold writesR putP countP
  rw [hdn]
  cases hd : s.down with
  | true => simp; exact h
  | false =>
    cases hg : goodP p with
    | false => simp; exact h
    | true =>
      have CR := call_rel h ho hd
      simp only [hd] at CR
      obtain ⟨c1, c2, c2', c3, c4⟩ := CR
      simp only [Bool.not_true, Bool.false_eq_true, if_false, ne_eq, not_true_eq_false]
      rw [fit_rel hi ha hg, had_rel ha, ← c1]
      by_cases hk1 : (callR r).1 = 1
      · rw [if_pos hk1, if_pos (.inr hk1)]
        obtain ⟨_, d2, d3⟩ := c4 (by omega)
        rw [hk1] at d3
        refine ⟨?_, rfl, d3⟩
        rw [hk1]
        rfl
      · rw [if_neg hk1]
        simp only [hk1, or_false]
        by_cases hk0 : (callR r).1 = 0
        · simp only [hk0, not_true_eq_false, if_false]
          by_cases hc : checkP es p (((putP.oldP es p m).length : Int) + c.length) = 0
          · simp only [hc, not_true_eq_false, if_false, if_true]
            refine ⟨?_, ?_, c3 hk0⟩
            · simp [errnoP]
            have : (hitP { s with calls := s.calls + 1, down := false }).1.2.1 = 0 := by rw [← c1]; exact hk0
            unfold writtenP cutR
            rw [this]
            simp
          · simp only [hc, not_false_eq_true, if_true, if_false]
            exact ⟨by simp [orP, errnoP], trivial, c3 hk0⟩
        · obtain ⟨d1, d2, d3⟩ := c4 hk0
          simp only [hk0, not_false_eq_true, if_true]
          by_cases hc : checkP es p (((putP.oldP es p m).length : Int) + c.length) = 0
          · simp only [hc, not_true_eq_false, if_false, if_true]
            refine ⟨by simpa using d2, ?_, d3⟩
            have hkk : (hitP { s with calls := s.calls + 1, down := false }).1.2.1 ≠ 0 := by rw [← c1]; exact hk0
            have hkeep : (callR r).2.keep = r.keep := by
              unfold callR
              split
              · rfl
              · split <;> rfl
            unfold writtenP cutR
            rw [if_neg hkk, ← d1, hkeep]
            by_cases hlt : r.keep < (c.length : Int)
            · rw [if_pos ⟨hk0, hlt⟩, Nat.min_eq_left (by omega)]
            · rw [if_neg (fun e => hlt e.2), Nat.min_eq_right (by omega), List.take_of_length_le (Nat.le_refl _)]
          · simp only [hc, not_false_eq_true, if_true, if_false]
            refine ⟨?_, trivial, d3⟩
            rw [d2]
            unfold orP
            have : errnoP (callR r).1 ≠ 0 := by
              have : (callR r).1 = 1 ∨ (callR r).1 = 2 ∨ (callR r).1 = 3 := by omega
              rcases this with e | e | e <;> rw [e] <;> simp [errnoP]
            rw [if_neg this]
theorem rename_rel {es fs : List Ent} {s : St} {r : RSt} (hi : Inv es) (ha : Alike es fs) (h : StRel s r) (ho : StOk s) (p q : List UInt8) :
    (renameR fs r p q).1 = (renameP es s p q).1 ∧ StRel (renameP es s p q).2.2 (renameR fs r p q).2.2 ∧
    (match (renameR fs r p q).2.1 with | none => (renameP es s p q).2.1 = es | some d => ∃ v, (renameP es s p q).2.1 = putE ⟨q, v, d⟩ (delE p es)) := by
  obtain ⟨e1, e2⟩ := start_rel h ho (goodP p && goodP q)
  unfold renameR renameP
  rw [e1]
  by_cases h0 : (startP s (goodP p && goodP q)).1 = 0
  · have hg := start_one s _ h0
    rw [Bool.and_eq_true] at hg
    have nh0 : ¬ ((startP s (goodP p && goodP q)).1 ≠ 0) := fun e => e h0
    rw [if_neg nh0, if_neg nh0, file_rel hi ha hg.1]
    by_cases hl : lookP es p = 0
    · have nhl : ¬ (lookP es p ≠ 0) := fun e => e hl
      rw [if_neg nhl, if_neg nhl, free_rel (inv_del hi p) (ha.del p) hg.2]
      have hb : ((delE p es).any fun x => blocks q q x.path) = es.any fun x => blocks q p x.path := by
        rw [Bool.eq_iff_iff, List.any_eq_true, List.any_eq_true]
        constructor
        · rintro ⟨x, hx, hb⟩
          rw [mem_delE] at hx
          refine ⟨x, hx.1, ?_⟩
          have hne : (x.path == p) = false := by simpa using hx.2
          unfold blocks at hb ⊢
          rw [Bool.and_eq_true] at hb
          rw [hne, hb.2]
          rfl
        · rintro ⟨x, hx, hb⟩
          unfold blocks at hb
          rw [Bool.and_eq_true] at hb
          refine ⟨x, mem_delE.2 ⟨hx, by simpa using hb.1⟩, ?_⟩
          have hne : (x.path == q) = false := by
            cases he : x.path == q with
            | false => rfl
            | true =>
              have he' : x.path = q := by simpa using he
              have h2 := hb.2
              rw [he', below_self hg.2] at h2
              cases h2
          unfold blocks
          rw [hne, hb.2]
          rfl
      rw [hb]
      by_cases hbl : (es.any fun x => blocks q p x.path) = true
      · rw [if_pos hbl, if_pos hbl]
        exact ⟨rfl, e2, rfl⟩
      · rw [if_neg hbl, if_neg hbl]
        refine ⟨rfl, e2, ?_⟩
        have hf : (findE es p).isSome = true := by
          cases hs : (findE es p).isSome with
          | true => rfl
          | false =>
            unfold lookP isP at hl
            rw [if_neg (good_ne hg.1), if_neg (show ¬ (goodP p = false) by simp [hg.1]), hs] at hl
            simp only [Bool.false_eq_true, if_false] at hl
            split at hl <;> cases hl
        obtain ⟨x, hx⟩ := Option.isSome_iff_exists.1 hf
        have hlk : lookR fs p = some x.data := by rw [← ha.look]; unfold lookR; rw [hx]; rfl
        simp only [ne_eq, not_true_eq_false, if_false, hlk, hx]
        exact ⟨_, rfl⟩
    · rw [if_pos hl, if_pos hl]
      exact ⟨rfl, e2, rfl⟩
  · rw [if_pos h0, if_pos h0]
    exact ⟨rfl, e2, rfl⟩
theorem setR_rel {s : St} {r : RSt} (h : StRel s r) (k i j : Int) : (setR r k i j).1 = (setP s k i j).1 ∧ StRel (setP s k i j).2 (setR r k i j).2 := by
  have hdn := h.2.2.2.1
  by_cases hk : k < 0 ∨ i < 0 ∨ 3 < i ∨ j < 0
  · unfold setR setP
    rw [if_pos hk, if_pos hk]
    exact ⟨rfl, h⟩
  · cases hd : s.down with
    | true =>
      unfold setR setP
      rw [if_neg hk, if_neg hk, hdn, hd]
      exact ⟨rfl, h⟩
    | false =>
      have hs := set_rel h hk hd
      have hdr : r.down = false := hdn.trans hd
      unfold setR
      rw [if_neg hk, if_neg (by rw [hdr]; simp)]
      refine ⟨?_, hs⟩
      unfold setP
      rw [if_neg hk, hd]
      rfl
theorem restart_rel {s : St} {r : RSt} (h : StRel s r) : (restartR r).1 = (restartP s).1 ∧ StRel (restartP s).2 (restartR r).2 := by
  obtain ⟨h1, h2, h3, h4, h5⟩ := h
  unfold restartR restartP
  rw [h4]
  cases hd : s.down with
  | true => exact ⟨rfl, h1, h2, h3, rfl, h5⟩
  | false => exact ⟨rfl, h1, h2, h3, h4, h5⟩

end Go.Proofs.YthpkfgjjaieikaaGreatDoor
