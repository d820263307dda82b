/-
  What an operation that goes wrong leaves of the files; a look into a map of texts.
-/
import Derived.Test.YthpkfgjjaieikaaDoorFsFiles
import Derived.Laws.Cover3
namespace Go.Proofs.YthpkfgjjaieikaaDoor
open Go.RowKit Go.Shelf Go.Lib Go.Maps

/-- the bytes at a path -/
def lookD (es : List Ent) (q : List UInt8) : Option (List UInt8) := (findE es q).map (·.data)
/-- what may have become of the files behind an error -/
def ErrRel (o : OpD) (r : Int) (L1 L2 : List UInt8 → Option (List UInt8)) : Prop :=
  (∀ q, L2 q = L1 q) ∨
  ((r = 21 ∨ r = 22) ∧ ∃ t : List UInt8, hasPrefix o.c t = true ∧
    ((o.d = 1 ∧ ∀ q, L2 q = if q = o.p then some t else L1 q) ∨ (o.d = 2 ∧ ∀ q, L2 q = if q = o.p then some ((L1 o.p).getD [] ++ t) else L1 q)))
theorem written_prefix (f : Int × Int × Int) (c : List UInt8) : hasPrefix c (writtenP f c) = true := by
  unfold writtenP hasPrefix
  split
  · exact List.isPrefixOf_iff_prefix.2 (List.prefix_refl c)
  · exact List.isPrefixOf_iff_prefix.2 (List.take_prefix _ _)
theorem put_err {es es' : List Ent} {s : St} {p c : List UInt8} {m : Bool} (h : PutEs es p (putP es s p c m).2.1 es') (hr : (putP es s p c m).1 ≠ 0) :
    (∀ q, lookD es' q = lookD es q) ∨ (((putP es s p c m).1 = 21 ∨ (putP es s p c m).1 = 22) ∧ ∃ t, hasPrefix c t = true ∧ ∀ q, lookD es' q = if q = p then some (putP.oldP es p m ++ t) else lookD es q) := by
  unfold putP at h hr ⊢
  split at h
  · next h0 => exact .inl fun q => by rw [show es' = es from h]
  · next h0 =>
    rw [if_neg h0] at hr
    rw [if_neg h0]
    split at h
    · next h1 => exact .inl fun q => by rw [show es' = es from h]
    · next h1 =>
      rw [if_neg h1] at hr
      rw [if_neg h1]
      obtain ⟨v, rfl⟩ := h
      refine .inr ⟨?_, _, written_prefix (countP s (goodP p)).1 c, fun q => ?_⟩
      · simp only at hr ⊢
        unfold errnoP at hr ⊢
        split
        · next e => exact absurd (.inr e) h1
        · split
          · exact .inl rfl
          · split
            · exact .inr rfl
            · next e1 e2 e3 => rw [if_neg e1, if_neg e2, if_neg e3] at hr; exact absurd rfl hr
      · unfold lookD
        rw [findE_put]
        split <;> rfl
theorem one_err {es es' : List Ent} {s s' : St} {o : OpD} {r : Int} (h : OneRes es s o r es' s') (hr : r ≠ 0) : ErrRel o r (lookD es) (lookD es') := by
  unfold OneRes at h
  split at h
  · exact .inl fun q => by rw [h.2.1]
  split at h
  · next hd =>
    rw [h.1] at hr ⊢
    rcases put_err h.2.2 hr with h1 | ⟨h1, t, ht, h2⟩
    · exact .inl h1
    · exact .inr ⟨h1, t, ht, .inl ⟨hd, fun q => by rw [h2 q]; rfl⟩⟩
  split at h
  · next hd =>
    rw [h.1] at hr ⊢
    rcases put_err h.2.2 hr with h1 | ⟨h1, t, ht, h2⟩
    · exact .inl h1
    · refine .inr ⟨h1, t, ht, .inr ⟨hd, fun q => ?_⟩⟩
      rw [h2 q]
      have : putP.oldP es o.p true = (lookD es o.p).getD [] := by
        unfold putP.oldP lookD
        cases findE es o.p <;> rfl
      rw [this]
  split at h
  · have e : es' = (renameP es s o.p o.q).2.1 := by rw [← h]
    have e2 : r = (renameP es s o.p o.q).1 := by rw [← h]
    refine .inl fun q => ?_
    rw [e]
    rw [e2] at hr
    unfold renameP at hr ⊢
    split
    · rfl
    · next h0 =>
      rw [if_neg h0] at hr
      split
      · rfl
      · next h1 =>
        rw [if_neg h1] at hr
        split
        · rfl
        · next h2 => rw [if_neg h2] at hr; exact absurd rfl hr
  split at h
  · have e : es' = (removeP es s o.p).2.1 := by rw [← h]
    have e2 : r = (removeP es s o.p).1 := by rw [← h]
    refine .inl fun q => ?_
    rw [e]
    rw [e2] at hr
    unfold removeP at hr ⊢
    split
    · rfl
    · next h0 =>
      rw [if_neg h0] at hr
      split
      · rfl
      · next h1 => rw [if_neg h1] at hr; exact absurd rfl hr
  split at h
  · exact .inl fun q => by rw [h.2.1]
  split at h
  · exact .inl fun q => by rw [h.2.1]
  split at h
  · exact .inl fun q => by rw [h.2.1]
  · exact .inl fun q => by rw [h.2.1]

/-- the first loop: what was there is there still, and is the same but at the path of the operation -/
theorem err_was {o : OpD} {r : Int} {L1 L2 : List UInt8 → Option (List UInt8)} (h : ErrRel o r L1 L2) {p s : List UInt8} (hp : L1 p = some s) : ∃ t, L2 p = some t ∧ (p ≠ o.p → t = s) := by
  rcases h with h | ⟨_, t, _, h | h⟩
  · exact ⟨s, by rw [h, hp], fun _ => rfl⟩
  · by_cases e : p = o.p
    · exact ⟨t, by rw [h.2, if_pos e], fun n => absurd e n⟩
    · exact ⟨s, by rw [h.2, if_neg e, hp], fun _ => rfl⟩
  · by_cases e : p = o.p
    · exact ⟨_, by rw [h.2, if_pos e], fun n => absurd e n⟩
    · exact ⟨s, by rw [h.2, if_neg e, hp], fun _ => rfl⟩
/-- the second loop: what is there now was there, or is what the operation wrote -/
theorem err_is {o : OpD} {r : Int} {L1 L2 : List UInt8 → Option (List UInt8)} (h : ErrRel o r L1 L2) {p s : List UInt8} (hp : L2 p = some s) :
    L1 p = some s ∨ (p = o.p ∧ (r = 21 ∨ r = 22) ∧ ((o.d = 1 ∧ hasPrefix o.c s = true) ∨ (o.d = 2 ∧ hasPrefix s ((L1 p).getD []) = true ∧ hasPrefix o.c (s.drop ((L1 p).getD []).length) = true))) := by
  rcases h with h | ⟨hr, t, ht, h | h⟩
  · exact .inl (by rw [← h, hp])
  · by_cases e : p = o.p
    · rw [h.2, if_pos e] at hp
      injection hp with hp
      subst hp
      exact .inr ⟨e, hr, .inl ⟨h.1, ht⟩⟩
    · rw [h.2, if_neg e] at hp
      exact .inl hp
  · by_cases e : p = o.p
    · rw [h.2, if_pos e] at hp
      injection hp with hp
      subst hp
      subst e
      refine .inr ⟨rfl, hr, .inr ⟨h.1, ?_, ?_⟩⟩
      · unfold hasPrefix
        exact List.isPrefixOf_iff_prefix.2 (List.prefix_append _ _)
      · rw [List.drop_left]
        exact ht
    · rw [h.2, if_neg e] at hp
      exact .inl hp

theorem zeroS (w : World) : (zeroValue 9).run Tryd.prog w = .ok (str []) w := by kernel_rfl
/-- a look into a map of texts -/
theorem text_look {W : World} {bm : Nat} {ms : List Ent} (h : TextMap W bm ms) {q : List UInt8} (hq : q.length ≤ maxLen) :
    (Instr.lookup 44 (.map (some bm)) (str q) false).run Tryd.prog W = .ok (str ((lookD ms q).getD [])) W ∧
    (Instr.lookup 44 (.map (some bm)) (str q) true).run Tryd.prog W = .ok (.tuple #[str ((lookD ms q).getD []), .bool (lookD ms q).isSome]) W := by
  have key : ∀ v ps, heldR v = some ((toD ms).atKey (.string q) (.held (str [])), ps) → v = str ((lookD ms q).getD []) := fun v ps hv => by
    rw [toD_at] at hv
    injection hv with hv
    injection hv with hv _
    unfold lookD
    cases hf : findE ms q with
    | none => rw [hf] at hv; injection hv with hv
    | some x =>
      rw [hf] at hv
      injection hv with hv
      rw [hv, h.2 x (findE_mem hf).1]
      rfl
  constructor
  · obtain ⟨v, ps, h1, h2⟩ := h.1.lookup law Tryd.underlying44 (zeroS W) (zd := .held (str [])) (zp := []) rfl (keyStr q hq)
    rw [h1, key v ps h2]
  · obtain ⟨v, ps, h1, h2⟩ := h.1.look_ok law Tryd.underlying44 (zeroS W) (zd := .held (str [])) (zp := []) rfl (keyStr q hq)
    rw [h1, key v ps h2, toD_has]
    unfold lookD
    rw [Option.isSome_map]
theorem TextMap.touch {T : Nat → Prop} {W W' : World} {bm : Nat} {ms : List Ent} (h : TextMap W bm ms) (ht : Touch T W W') (hT : ¬ T bm) : TextMap W' bm ms := ⟨map_same h.1 (ht.block _ h.1.lt hT), h.2⟩

end Go.Proofs.YthpkfgjjaieikaaDoor
