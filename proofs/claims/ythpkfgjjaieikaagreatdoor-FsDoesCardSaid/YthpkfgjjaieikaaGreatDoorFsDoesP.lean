/-
  The document's list of files beside the program's: in the order of their paths, the same bytes at each. No program is walked here, and nothing is assumed.
-/
import Derived.Test.YthpkfgjjaieikaaGreatDoorFsCalm
import Derived.Maps.Ext
namespace Go.Proofs.YthpkfgjjaieikaaGreatDoor
open Go.RowKit Go.Shelf Go.Lib Go.Maps Go.Sort

/-- the bytes at a path -/
def lookR (es : List Ent) (q : List UInt8) : Option (List UInt8) := (findE es q).map (·.data)

/-- files in the order of their paths -/
def Rising (es : List Ent) : Prop := es.Pairwise fun x y => x.path < y.path
theorem before_less : ∀ a b : List UInt8, bytesBefore a b = Op.bytesLess a b
  | [], [] => rfl
  | [], _ :: _ => rfl
  | _ :: _, [] => rfl
  | a :: r, b :: s => by rw [bytesBefore, Op.bytesLess, before_less r s]
theorem before_eq (a b : List UInt8) : bytesBefore a b = decide (a < b) := by rw [before_less, bytesLess_eq]
theorem FsAt.rising {w : World} {FP : Nat → Prop} {b bm : Nat} {es : List Ent} {s : St} (h : FsAt w FP b bm es s) : Rising es := by
  obtain ⟨l, hl, hp, _⟩ := h.files.map.canon law
  injection hl with hl
  rw [← hl, toL, List.pairwise_map] at hp
  exact hp.imp fun {x y} hxy => by
    have : bytesBefore x.path y.path = true := hxy
    rwa [before_eq, decide_eq_true_eq] at this
theorem lt_asymm' {a b : List UInt8} (h : a < b) : ¬ b < a := fun k => List.lt_irrefl _ (List.lt_trans h k)

/-- what the document says of a file -/
abbrev pd (x : Ent) : List UInt8 × List UInt8 := (x.path, x.data)
def Alike (es fs : List Ent) : Prop := es.map pd = fs.map pd
theorem Alike.len {es fs : List Ent} (h : Alike es fs) : es.length = fs.length := by have := congrArg List.length h; simpa using this
theorem Alike.paths {es fs : List Ent} (h : Alike es fs) : es.map (·.path) = fs.map (·.path) := by
  have := congrArg (List.map Prod.fst) h
  simpa [List.map_map, Function.comp_def] using this
theorem Alike.any {es fs : List Ent} (h : Alike es fs) (f : List UInt8 → Bool) : (es.any fun x => f x.path) = fs.any fun x => f x.path := by
  have e : ∀ l : List Ent, (l.any fun x => f x.path) = (l.map (·.path)).any f := fun l => by rw [List.any_map]; rfl
  rw [e, e, h.paths]
theorem Alike.find {es fs : List Ent} (h : Alike es fs) (p : List UInt8) : (findE es p).map pd = (findE fs p).map pd := by
  have e : ∀ l : List Ent, (findE l p).map pd = (l.map pd).find? fun x => x.1 == p := fun l => by
    rw [findE, List.find?_map]; rfl
  rw [e, e, show es.map pd = fs.map pd from h]
theorem Alike.look {es fs : List Ent} (h : Alike es fs) (p : List UInt8) : lookR es p = lookR fs p := by
  have := congrArg (Option.map Prod.snd) (h.find p)
  simpa [lookR, Option.map_map, Function.comp_def] using this
theorem Alike.is {es fs : List Ent} (h : Alike es fs) (p : List UInt8) : (findE es p).isSome = (findE fs p).isSome := by
  have := congrArg Option.isSome (h.find p)
  simpa using this
theorem Alike.rising {es fs : List Ent} (h : Alike es fs) (hr : Rising es) : Rising fs := by
  have e : ∀ l : List Ent, Rising l ↔ (l.map (·.path)).Pairwise (· < ·) := fun l => by rw [List.pairwise_map]; rfl
  rw [e] at hr ⊢
  rwa [← h.paths]
theorem Alike.del {es fs : List Ent} (h : Alike es fs) (p : List UInt8) : Alike (delE p es) (delE p fs) := by
  have e : ∀ l : List Ent, (delE p l).map pd = (l.map pd).filter fun x => !(x.1 == p) := fun l => by
    rw [delE, List.filter_map]; rfl
  show (delE p es).map pd = (delE p fs).map pd
  rw [e, e, show es.map pd = fs.map pd from h]
theorem Alike.ins {es fs : List Ent} (h : Alike es fs) {x y : Ent} (hxy : pd x = pd y) : Alike (insE x es) (insE y fs) := by
  have hp : x.path = y.path := congrArg Prod.fst hxy
  induction es generalizing fs with
  | nil =>
    cases fs with
    | nil => simp [Alike, insE, hxy]
    | cons z r => simp [Alike] at h
  | cons a r ih =>
    cases fs with
    | nil => simp [Alike] at h
    | cons z t =>
      have h' : pd a = pd z ∧ Alike r t := by
        have : pd a :: r.map pd = pd z :: t.map pd := h
        injection this with h1 h2
        exact ⟨h1, h2⟩
      have hz : a.path = z.path := congrArg Prod.fst h'.1
      have ih' := ih h'.2
      simp only [insE, hp, hz]
      split
      · show pd x :: pd a :: r.map pd = pd y :: pd z :: t.map pd
        rw [hxy, h'.1, show r.map pd = t.map pd from h'.2]
      · show pd a :: (insE x r).map pd = pd z :: (insE y t).map pd
        rw [h'.1, show (insE x r).map pd = (insE y t).map pd from ih']
theorem Alike.put {es fs : List Ent} (h : Alike es fs) {x y : Ent} (hxy : pd x = pd y) : Alike (putE x es) (putE y fs) := by
  have hp : x.path = y.path := congrArg Prod.fst hxy
  unfold putE
  rw [hp]
  exact (h.del _).ins hxy

/-- the place of a file: the length of the list where there is none -/
def idxE (fs : List Ent) (p : List UInt8) : Nat := fs.findIdx fun x => x.path == p
theorem idx_none {fs : List Ent} {p : List UInt8} (h : findE fs p = none) : idxE fs p = fs.length := by
  unfold idxE
  rw [List.findIdx_eq_length]
  intro x hx
  have := List.find?_eq_none.1 h x hx
  simpa using this
theorem idx_some {fs : List Ent} {p : List UInt8} {x : Ent} (h : findE fs p = some x) : ∃ hlt : idxE fs p < fs.length, fs[idxE fs p] = x := by
  induction fs with
  | nil => simp [findE] at h
  | cons y r ih =>
    unfold findE at h
    rw [List.find?_cons] at h
    by_cases hy : (y.path == p) = true
    · rw [hy] at h
      have e : idxE (y :: r) p = 0 := by simp [idxE, List.findIdx_cons, hy]
      simp only [Option.some.injEq] at h
      refine ⟨by rw [e]; simp, ?_⟩
      simp only [e, List.getElem_cons_zero]
      exact h
    · have hy' : (y.path == p) = false := by simpa using hy
      rw [hy'] at h
      obtain ⟨h1, h2⟩ := ih h
      have e : idxE (y :: r) p = idxE r p + 1 := by simp [idxE, List.findIdx_cons, hy']
      refine ⟨by rw [e]; simpa using h1, ?_⟩
      simp only [e, List.getElem_cons_succ]
      exact h2
theorem del_none {fs : List Ent} {p : List UInt8} (h : findE fs p = none) : delE p fs = fs := by
  unfold delE
  rw [List.filter_eq_self]
  intro x hx
  have := List.find?_eq_none.1 h x hx
  simpa using this
theorem rising_ne {x : Ent} {r : List Ent} (h : Rising (x :: r)) : ∀ y ∈ r, y.path ≠ x.path := fun y hy e => by
  have := (List.pairwise_cons.1 h).1 y hy
  rw [e] at this
  exact List.lt_irrefl _ this
/-- a file is gone -/
theorem drop_is {fs : List Ent} (hr : Rising fs) {p : List UInt8} {x : Ent} (h : findE fs p = some x) : fs.take (idxE fs p) ++ fs.drop (idxE fs p + 1) = delE p fs := by
  induction fs with
  | nil => simp [findE] at h
  | cons y r ih =>
    unfold findE at h
    rw [List.find?_cons] at h
    by_cases hy : (y.path == p) = true
    · have e : idxE (y :: r) p = 0 := by simp [idxE, List.findIdx_cons, hy]
      have hyp : y.path = p := by simpa using hy
      rw [e]
      have : delE p r = r := del_none (List.find?_eq_none.2 fun z hz => by
        have := rising_ne hr z hz
        rw [hyp] at this
        simpa using this)
      rw [show delE p (y :: r) = delE p r by simp [delE, hy]] 
      rw [this]
      simp
    · have hy' : (y.path == p) = false := by simpa using hy
      rw [hy'] at h
      have e : idxE (y :: r) p = idxE r p + 1 := by simp [idxE, List.findIdx_cons, hy']
      rw [e, List.take_succ_cons, List.drop_succ_cons, List.cons_append, ih (List.pairwise_cons.1 hr).2 h]
      simp [delE, hy']
theorem ins_front {x : Ent} {r : List Ent} (h : ∀ y ∈ r, x.path < y.path) : insE x r = x :: r := by
  cases r with
  | nil => rfl
  | cons y r => rw [insE, before_eq, if_pos (by simpa using h y List.mem_cons_self)]
/-- another file at its place -/
theorem set_is {fs : List Ent} (hr : Rising fs) {p : List UInt8} {x y : Ent} (h : findE fs p = some x) (hy : y.path = p) : fs.set (idxE fs p) y = putE y fs := by
  subst hy
  unfold putE
  induction fs with
  | nil => simp [findE] at h
  | cons z r ih =>
    unfold findE at h
    rw [List.find?_cons] at h
    by_cases hz : (z.path == y.path) = true
    · have e : idxE (z :: r) y.path = 0 := by simp [idxE, List.findIdx_cons, hz]
      have hzp : z.path = y.path := by simpa using hz
      have hd : delE y.path r = r := del_none (List.find?_eq_none.2 fun u hu => by
        have := rising_ne hr u hu
        rw [hzp] at this
        simpa using this)
      rw [show delE y.path (z :: r) = delE y.path r by simp [delE, hz]]
      rw [hd, e, List.set_cons_zero, ins_front fun u hu => by
        rw [← hzp]; exact (List.pairwise_cons.1 hr).1 u hu]
    · have hz' : (z.path == y.path) = false := by simpa using hz
      rw [hz'] at h
      have e : idxE (z :: r) y.path = idxE r y.path + 1 := by simp [idxE, List.findIdx_cons, hz']
      obtain ⟨hx1, hx2⟩ := findE_mem (show findE r y.path = some x from h)
      have hlt : z.path < y.path := by rw [← hx2]; exact (List.pairwise_cons.1 hr).1 x hx1
      rw [e, List.set_cons_succ, ih (List.pairwise_cons.1 hr).2 h]
      rw [show delE y.path (z :: r) = z :: delE y.path r by simp [delE, hz']]
      rw [insE, before_eq, if_neg (by simpa using lt_asymm' hlt)]
/-- how many files come ahead of a path -/
def aheadE (fs : List Ent) (p : List UInt8) : Nat := fs.findIdx fun x => !Op.bytesLess x.path p
theorem ahead_le (fs : List Ent) (p : List UInt8) : aheadE fs p ≤ fs.length := List.findIdx_le_length
/-- a new file at its place -/
theorem new_is {fs : List Ent} {y : Ent} (h : findE fs y.path = none) : fs.take (aheadE fs y.path) ++ y :: fs.drop (aheadE fs y.path) = putE y fs := by
  unfold putE
  rw [del_none h]
  induction fs with
  | nil => rfl
  | cons z r ih =>
    unfold findE at h
    rw [List.find?_cons] at h
    by_cases hz : (z.path == y.path) = true
    · rw [hz] at h; cases h
    · have hz' : (z.path == y.path) = false := by simpa using hz
      rw [hz'] at h
      by_cases hlt : z.path < y.path
      · have hb : Op.bytesLess z.path y.path = true := by rw [bytesLess_eq]; simpa using hlt
        have e : aheadE (z :: r) y.path = aheadE r y.path + 1 := by simp [aheadE, List.findIdx_cons, hb]
        rw [e, List.take_succ_cons, List.drop_succ_cons, List.cons_append, ih h, insE, before_eq, if_neg (by simpa using lt_asymm' hlt)]
      · have hb : Op.bytesLess z.path y.path = false := by rw [bytesLess_eq]; simpa using hlt
        have e : aheadE (z :: r) y.path = 0 := by simp [aheadE, List.findIdx_cons, hb]
        have hne : z.path ≠ y.path := by simpa using hz'
        have hgt : y.path < z.path := by
          by_cases hg : y.path < z.path
          · exact hg
          · exact absurd (List.le_antisymm (List.not_lt.1 hg) (List.not_lt.1 hlt)) hne
        rw [e, insE, before_eq, if_pos (by simpa using hgt)]
        rfl
theorem pathsOf_rising {es : List Ent} (h : Rising es) : pathsOf es = es.map (·.path) := by
  unfold pathsOf
  refine List.mergeSort_of_pairwise ?_
  rw [List.pairwise_map]
  exact h.imp fun hxy => by simpa using List.le_of_lt hxy

/-- the numbers of the document's file system -/
structure RSt where
  count : Int
  kind : Int
  keep : Int
  calls : Int
  down : Bool
def StRel (s : St) (r : RSt) : Prop := r.kind = s.kind ∧ r.keep = s.keep ∧ r.calls = s.calls ∧ r.down = s.down ∧ (r.count = s.left ∨ (r.count = 0 ∧ s.kind = 0))
/-- what a call of the document's has -/
def callR (r : RSt) : Int × RSt :=
  if r.count = 0 then (0, { r with calls := r.calls + 1 })
  else if 0 < r.count - 1 then (0, { r with calls := r.calls + 1, count := r.count - 1 })
  else (r.kind, { r with calls := r.calls + 1, count := r.count - 1 })
def goesR (k : Int) (r : RSt) : Int × RSt := if k = 1 then (20, r) else if k = 2 then (21, r) else (22, { r with down := true })
/-- a call without a fault, and with one -/
theorem call_rel {s : St} {r : RSt} (h : StRel s r) (ho : StOk s) (hd : s.down = false) :
    (callR r).1 = (hitP { s with calls := s.calls + 1 }).1.2.1 ∧ 0 ≤ (callR r).1 ∧ (callR r).1 ≤ 3 ∧
    ((callR r).1 = 0 → StRel (hitP { s with calls := s.calls + 1 }).2 (callR r).2) ∧
    ((callR r).1 ≠ 0 → (callR r).2.keep = (hitP { s with calls := s.calls + 1 }).1.2.2 ∧ (goesR (callR r).1 (callR r).2).1 = errnoP (callR r).1 ∧ StRel (hitP { s with calls := s.calls + 1 }).2 (goesR (callR r).1 (callR r).2).2) := by
  obtain ⟨l, k, y, c, d⟩ := s
  obtain ⟨n, k', y', c', d'⟩ := r
  obtain ⟨h1, h2, h3, h4, h5⟩ := h
  obtain ⟨o1, o2, o3, o4, o5, o6, o7, o8⟩ := ho
  simp only at h1 h2 h3 h4 h5 hd o1 o2 o3 o4
  subst h1 h2 h3 h4 hd
  unfold callR hitP
  simp only
  rcases h5 with rfl | ⟨rfl, rfl⟩
  · by_cases h0 : n = 0
    · subst h0
      simp [StRel]
    · rw [if_neg h0, if_neg h0]
      by_cases hp : 0 < n - 1
      · rw [if_pos hp, if_pos hp]
        simp [StRel]
      · rw [if_neg hp, if_neg hp]
        have hn : n = 1 := by omega
        subst hn
        have hk : k' = 0 ∨ k' = 1 ∨ k' = 2 ∨ k' = 3 := by omega
        rcases hk with rfl | rfl | rfl | rfl <;> simp [StRel, goesR, errnoP]
  · by_cases h0 : l = 0
    · subst h0
      simp [StRel]
    · rw [if_pos rfl, if_neg h0]
      by_cases hp : 0 < l - 1
      · rw [if_pos hp]
        simp [StRel]
      · rw [if_neg hp]
        simp [StRel]
theorem set_rel {s : St} {r : RSt} (h : StRel s r) {k i j : Int} (hk : ¬ (k < 0 ∨ i < 0 ∨ 3 < i ∨ j < 0)) (hd : s.down = false) : StRel (setP s k i j).2 { r with count := if i = 0 then 0 else k, kind := i, keep := j } := by
  obtain ⟨h1, h2, h3, h4, h5⟩ := h
  unfold setP
  rw [if_neg hk, hd]
  refine ⟨rfl, rfl, h3, h4.trans hd, ?_⟩
  by_cases hi : i = 0
  · exact .inr ⟨by simp [hi], hi⟩
  · exact .inl (by simp [hi])

end Go.Proofs.YthpkfgjjaieikaaGreatDoor
