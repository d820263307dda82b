/-
  A file system of the program's and the document's beside it: what they keep of each other. No program is walked here, and nothing is assumed.
-/
import Derived.Test.YthpkfgjjaieikaaGreatDoorFsRefI
import Derived.Test.YthpkfgjjaieikaaGreatDoorFsRefJ
import Derived.Test.YthpkfgjjaieikaaGreatDoorFsScript
namespace Go.Proofs.YthpkfgjjaieikaaGreatDoor
open Go.RowKit Go.Shelf Go.Lib Go.Maps

structure Both (w : World) (FP FR : Nat → Prop) (b bm rb : Nat) (es : List Ent) (s : St) (v : Value) (fs : List Ent) (r : RSt) : Prop where
  prog : FsAt w FP b bm es s
  ref : RefV w FR rb v fs r
  apart : ∀ k, FP k → FR k → False
  tightP : ∀ k, FP k → k < w.heap.size
  tightR : ∀ k, FR k → k < w.heap.size
  inv : Inv es
  alike : Alike es fs
  rel : StRel s r
  ok : StOk s
  len : es.length ≤ 4096

theorem RefV.tight {w : World} {FR : Nat → Prop} {rb : Nat} {v : Value} {fs : List Ent} {r : RSt} (h : RefV w FR rb v fs r) : RefV w (fun k => FR k ∧ k < w.heap.size) rb v fs r :=
  ⟨h.cells, h.row, ⟨h.own, h.lt⟩, fun k hk => ⟨h.ownv k hk, (h.row.lt k hk).2⟩, fun x hx => ⟨(h.datas x hx).1, fun k hk => ⟨(h.datas x hx).2 k hk, (h.datas x hx).1.block k hk⟩⟩, h.small, h.short⟩
section
variable {w : World} {FP FR : Nat → Prop} {b bm rb : Nat} {es : List Ent} {s : St} {v : Value} {fs : List Ent} {r : RSt}
theorem Both.rising (h : Both w FP FR b bm rb es s v fs r) : Rising fs := h.alike.rising h.prog.rising
theorem Both.good (h : Both w FP FR b bm rb es s v fs r) : ∀ x ∈ fs, goodP x.path = true := h.alike.good h.inv
theorem Both.rok (h : Both w FP FR b bm rb es s v fs r) (hc : s.calls ≤ 4000000000000000000) : ROk r := rel_ok h.rel h.ok hc
/-- blocks that are neither's turn -/
theorem Both.same (h : Both w FP FR b bm rb es s v fs r) {w' : World} (hb : ∀ k, k < w.heap.size → (FP k ∨ FR k) → w'.heap[k]? = w.heap[k]?) (hs : w.heap.size ≤ w'.heap.size) : Both w' FP FR b bm rb es s v fs r :=
  ⟨h.prog.same fun k hk hF => hb k hk (.inl hF), h.ref.same fun k hk hF => hb k hk (.inr hF), h.apart, fun k hk => Nat.lt_of_lt_of_le (h.tightP k hk) hs, fun k hk => Nat.lt_of_lt_of_le (h.tightR k hk) hs, h.inv, h.alike, h.rel, h.ok, h.len⟩
theorem Both.below (h : Both w FP FR b bm rb es s v fs r) {w' : World} (hb : Below w.heap.size w w') : Both w' FP FR b bm rb es s v fs r := h.same (fun k hk _ => hb.block k hk) hb.size
theorem Both.drew (h : Both w FP FR b bm rb es s v fs r) : Both w.drew FP FR b bm rb es s v fs r := h.same (fun _ _ _ => rfl) (Nat.le_refl _)

/-- what one step leaves -/
def StepR (w : World) (FP FR : Nat → Prop) (rb : Nat) (s : St) (b' : Nat) (w' : World) : Prop :=
  ∃ FP' FR' bm' es' s' v' fs' r', Both w' FP' FR' b' bm' rb es' s' v' fs' r' ∧ StNext s s' ∧ Touch (fun k => FP k ∨ FR k) w w' ∧ (∀ k, FP' k → FP k ∨ w.heap.size ≤ k) ∧ (∀ k, FR' k → FR k ∨ w.heap.size ≤ k)
/-- the program first, the document behind it -/
theorem StepR.mk (h : Both w FP FR b bm rb es s v fs r) {w1 w2 : World} {es' : List Ent} {s' : St} {v' : Value} {fs' : List Ent} {r' : RSt}
    (hF : FsAt w1 (fun k => FP k ∨ w.heap.size ≤ k) b bm es' s') (hT : Touch FP w w1) (hR : RefV w2 (fun k => FR k ∨ w1.heap.size ≤ k) rb v' fs' r') (hU : Touch FR w1 w2)
    (hi : Inv es') (ha : Alike es' fs') (hs : StRel s' r') (hn : StNext s s') (hl : es'.length ≤ 4096) : StepR w FP FR rb s b w2 := by
  have t1 := hF.tight
  have t2 := hR.tight
  refine ⟨fun k => (FP k ∨ w.heap.size ≤ k) ∧ k < w1.heap.size, fun k => (FR k ∨ w1.heap.size ≤ k) ∧ k < w2.heap.size, bm, es', s', v', fs', r', ⟨?_, t2, fun k h1 h2 => ?_, fun k hk => Nat.lt_of_lt_of_le hk.2 hU.size, fun k hk => hk.2, hi, ha, hs, hn.1, hl⟩, hn, ?_, fun k hk => hk.1, fun k hk => hk.1.imp id fun hk => Nat.le_trans hT.size hk⟩
  · exact t1.same fun k hk hFk => hU.block k hk fun hr => by
      rcases hFk.1 with h1 | h1
      · exact h.apart k h1 hr
      · have := h.tightR k hr; omega
  · rcases h2.1 with h2 | h2
    · rcases h1.1 with h1 | h1
      · exact h.apart k h1 h2
      · have := h.tightR k h2; omega
    · have := h1.2; omega
  · exact (hT.mono fun _ _ h => .inl h).trans (hU.mono fun _ _ h => .inr h)
/-- the document's, behind the program's step -/
theorem Both.refAfter (h : Both w FP FR b bm rb es s v fs r) {w1 : World} (hT : Touch FP w w1) : RefV w1 FR rb v fs r := h.ref.same fun k hk hr => hT.block k hk fun hp => h.apart k hp hr
end

theorem rising_ext {l1 l2 : List (List UInt8 × List UInt8)} (h1 : l1.Pairwise fun x y => x.1 < y.1) (h2 : l2.Pairwise fun x y => x.1 < y.1) (h : ∀ x, x ∈ l1 ↔ x ∈ l2) : l1 = l2 := by
  induction l1 generalizing l2 with
  | nil =>
    cases l2 with
    | nil => rfl
    | cons b r => exact absurd ((h b).2 List.mem_cons_self) (by simp)
  | cons a r1 ih =>
    cases l2 with
    | nil => exact absurd ((h a).1 List.mem_cons_self) (by simp)
    | cons b r2 =>
      rw [List.pairwise_cons] at h1 h2
      have hab : a = b := by
        rcases List.mem_cons.1 ((h a).1 List.mem_cons_self) with e | ha
        · exact e
        · rcases List.mem_cons.1 ((h b).2 List.mem_cons_self) with e | hb
          · exact e.symm
          · exact absurd (h2.1 a ha) (lt_asymm' (h1.1 b hb))
      subst hab
      congr 1
      refine ih h1.2 h2.2 fun x => ⟨fun hx => ?_, fun hx => ?_⟩
      · rcases List.mem_cons.1 ((h x).1 (List.mem_cons_of_mem _ hx)) with e | hx2
        · subst e; exact absurd (h1.1 x hx) (List.lt_irrefl _)
        · exact hx2
      · rcases List.mem_cons.1 ((h x).2 (List.mem_cons_of_mem _ hx)) with e | hx2
        · subst e; exact absurd (h2.1 x hx) (List.lt_irrefl _)
        · exact hx2
theorem rising_find {es : List Ent} (h : Rising es) {x : Ent} (hx : x ∈ es) : findE es x.path = some x := by
  induction es with
  | nil => cases hx
  | cons y r ih =>
    unfold findE
    rw [List.find?_cons]
    rcases List.mem_cons.1 hx with rfl | hx
    · simp
    · have hne : (y.path == x.path) = false := by
        have := (List.pairwise_cons.1 h).1 x hx
        cases hq : y.path == x.path with
        | false => rfl
        | true =>
          have hq' : y.path = x.path := by simpa using hq
          rw [hq'] at this
          exact absurd this (List.lt_irrefl _)
      rw [hne]
      exact ih (List.pairwise_cons.1 h).2 hx
/-- the same files, in order: the same list -/
theorem same_alike {es es' : List Ent} (h1 : Rising es) (h2 : Rising es') (h : SameFiles es es') : Alike es' es := by
  refine rising_ext (by rw [List.pairwise_map]; exact h2) (by rw [List.pairwise_map]; exact h1) fun x => ?_
  have one : ∀ {a c : List Ent}, Rising a → (∀ q, (findE c q).map (·.data) = (findE a q).map (·.data)) → x ∈ a.map pd → x ∈ c.map pd := fun {a c} ha hq hx => by
    obtain ⟨y, hy, rfl⟩ := List.mem_map.1 hx
    have := hq y.path
    rw [rising_find ha hy] at this
    obtain ⟨z, hz, e⟩ := Option.map_eq_some_iff.1 this
    obtain ⟨hz1, hz2⟩ := findE_mem hz
    exact List.mem_map.2 ⟨z, hz1, by show (z.path, z.data) = (y.path, y.data); rw [hz2, e]⟩
  exact ⟨one h2 fun q => (h q).symm, one h1 h⟩
theorem Alike.inv {es fs : List Ent} (h : Alike es fs) (hi : Inv es) : Inv fs := by
  refine ⟨h.good hi, fun x hx y hy => ?_, by rw [← h.paths]; exact hi.once⟩
  have get : ∀ z ∈ fs, ∃ u ∈ es, u.path = z.path := fun z hz => by
    have : z.path ∈ es.map (·.path) := by rw [h.paths]; exact List.mem_map_of_mem hz
    obtain ⟨u, hu, e⟩ := List.mem_map.1 this
    exact ⟨u, hu, e⟩
  obtain ⟨a, ha, e1⟩ := get x hx
  obtain ⟨c, hc, e2⟩ := get y hy
  rw [← e1, ← e2]
  exact hi.apart a ha c hc

end Go.Proofs.YthpkfgjjaieikaaGreatDoor
