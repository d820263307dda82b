/-
  What a history keeps of all that was added; the parts that came in; what lies while the law on it asks.
-/
import Derived.Test.YtojhppcnpjajaaaHlClone
namespace Go.Proofs.Ytojhppcnpjajaaa
open Go.RowKit Go.Shelf Go.Lib
attribute [local go_sem] Oper.semAt_some

/-- the last m of all, with their number -/
def canon (m : Nat) (all : List HL) : HS := ⟨all.drop (all.length - m), ((all.length - m : Nat) : Int) + 1, m⟩
theorem canon_nil (m : Nat) : canon m [] = hs0 m := by
  unfold canon hs0
  simp
theorem canon_push1 (m : Nat) (all : List HL) (x : HL) (h : all.length ≤ 1000000000) : push1 (canon m all) x = canon m (all ++ [x]) := by
  have e1 : (all.drop (all.length - m) ++ [x]) = (all ++ [x]).drop (all.length - m) := by rw [List.drop_append_of_le_length (by omega)]
  have e2 : ((all ++ [x]).drop (all.length - m)).length = all.length + 1 - (all.length - m) := by rw [List.length_drop, List.length_append]; rfl
  have e3 : (put1 (canon m all) x).over = all.length + 1 - (all.length - m) - m := by
    unfold HS.over
    show (all.drop (all.length - m) ++ [x]).length - m = _
    rw [e1, e2]
  unfold push1 trimP
  rw [e3]
  show (⟨(all.drop (all.length - m) ++ [x]).drop _, wrap64 ((((all.length - m : Nat) : Int) + 1) + _), m⟩ : HS) = _
  rw [e1, List.drop_drop]
  unfold canon
  rw [List.length_append, show ([x] : List HL).length = 1 from rfl]
  congr 1
  · congr 1
    omega
  · unfold wrap64
    omega
theorem canon_push (m : Nat) (xs : List HL) : ∀ (all : List HL), all.length + xs.length ≤ 1000000000 → pushP (canon m all) xs = canon m (all ++ xs) := by
  induction xs with
  | nil => intro all _; rw [List.append_nil]; rfl
  | cons x r ih =>
    intro all h
    rw [List.length_cons] at h
    show pushP (push1 (canon m all) x) r = _
    rw [canon_push1 m all x (by omega), ih _ (by rw [List.length_append]; simp; omega), List.append_assoc]
    rfl
/-- all that was added -/
def acc1 (all l : List HL) : List HL := if checkP l = 0 then all ++ l else all
def accP (ps : List (List HL)) : List HL := ps.foldl acc1 []
theorem canon_add (m : Nat) (all l : List HL) (h : all.length + l.length ≤ 1000000000) : addS (canon m all) l = canon m (acc1 all l) := by
  unfold addS acc1
  split
  · exact canon_push m l all h
  · rfl
theorem accP_snoc {ps : List (List HL)} {k : Nat} {l : List HL} (h : ps[k]? = some l) : accP (ps.take (k + 1)) = acc1 (accP (ps.take k)) l := by
  unfold accP
  rw [List.take_add_one, h, List.foldl_append]
  rfl
theorem acc1_len (all l : List HL) : (acc1 all l).length ≤ all.length + l.length := by
  unfold acc1
  split
  · rw [List.length_append]
    exact Nat.le_refl _
  · omega
theorem accP_len (ps : List (List HL)) : (accP ps).length ≤ (ps.map List.length).sum := by
  have key : ∀ (ps : List (List HL)) (a : List HL), (ps.foldl acc1 a).length ≤ a.length + (ps.map List.length).sum := by
    intro ps
    induction ps with
    | nil => intro a; simp
    | cons l r ih =>
      intro a
      have h1 := ih (acc1 a l)
      have h2 := acc1_len a l
      simp only [List.foldl_cons, List.map_cons, List.sum_cons]
      omega
  have := key ps []
  rw [List.length_nil, Nat.zero_add] at this
  exact this
theorem sum_take (ps : List Nat) (k : Nat) : (ps.take k).sum ≤ ps.sum := by
  have := List.sum_append (l₁ := ps.take k) (l₂ := ps.drop k)
  rw [List.take_append_drop] at this
  omega
theorem sum_take1 {ps : List Nat} {k x : Nat} (h : ps[k]? = some x) : (ps.take k).sum + x ≤ ps.sum := by
  have h1 := sum_take ps (k + 1)
  rw [List.take_add_one, h, List.sum_append] at h1
  simpa using h1
theorem acc_bound {ps : List (List HL)} {k : Nat} {l : List HL} (h : ps[k]? = some l) : (accP (ps.take k)).length + l.length ≤ (ps.map List.length).sum := by
  have h1 := accP_len (ps.take k)
  have h2 : (ps.map List.length)[k]? = some l.length := by rw [List.getElem?_map, h]; rfl
  have h3 := sum_take1 h2
  rw [← List.map_take] at h3
  omega
theorem canon_len (m : Nat) (all : List HL) : (canon m all).ls.length = all.length - (all.length - m) := List.length_drop
theorem canon_at {m : Nat} {all : List HL} {j : Nat} {z : HL} (h : (canon m all).ls[j]? = some z) : all[all.length - m + j]? = some z := by
  have h2 : (all.drop (all.length - m))[j]? = some z := h
  rwa [List.getElem?_drop] at h2

/-- the parts that came in -/
def PARTS (w : World) (v : Value) (ps : List (List HL)) : Prop := ∃ A c, v = .slice A ps.length c ∧ ∀ i l, ps[i]? = some l → ∃ b off u, A = some ⟨b, off, none⟩ ∧ b < w.heap.size ∧ w.cell? ⟨b, off + i, none⟩ = some u ∧ HH w u l

theorem run_happend {W : World} {A : Option Addr} {c : Nat} {l : List HL} (h : HSeg W (.slice A l.length c) l) {A2 : Option Addr} {n2 c2 : Nat} {xs : List HL} (hx : HH W (.slice A2 n2 c2) xs) (hl : l.length + xs.length ≤ 1000000000) (ty : TypeId) {al : List HL} (hal : al = l ++ xs) :
    ∃ A' c' w', (Builtin.append_ #[22, 22] ty #[.slice A l.length c, .slice A2 n2 c2]).run Try.prog W = .ok (.slice A' al.length c') w' ∧
      HSeg w' (.slice A' al.length c') al ∧ Touch (fun k => Value.ownBlock (.slice A l.length c) = some k) W w' ∧ (∀ k, Value.ownBlock (.slice A' al.length c') = some k → Value.ownBlock (.slice A l.length c) = some k ∨ W.heap.size ≤ k) := by
  subst hal
  obtain ⟨i, hi, hz, hs2, hby⟩ := info_parts info_hl
  obtain rfl := hx.len
  obtain ⟨A0, c0, e0, _, hs⟩ := hx
  injection e0 with e1 _ e3
  subst e1 e3
  obtain ⟨A', c', w', hr, h1, h2, h3⟩ := run_append_seg (P := Try.prog) _ 22 ty i (hlV zl) 24 Try.underlying22 hi hz hs2 hby rfl (by decide) h hs (hlVals_one _) (by unfold maxLen; omega) (by omega)
  refine ⟨A', c', w', by rw [List.length_append]; exact hr, ?_, Touch.of_grown h2 fun k hk => hk, fun k hk => h3 k (by rwa [List.length_append] at hk)⟩
  unfold HSeg
  rw [List.length_append, hlVals_append]
  exact h1
/-- what lies while the law asks: the answer, the history, all that was added -/
structure KE (w : World) (q5 q7 g : Nat) (v u : Value) (S : HS) (all : List HL) (W : World) : Prop where
  an : Box W w.heap.size (.bool false) 4
  hb : Box W q5 (.pointer (some ⟨g, 0, none⟩)) 24
  ab : Box W q7 u 22
  l : LAt W g v S
  a : HSeg W u all
  d : ∀ k, v.ownBlock = some k → u.ownBlock ≠ some k
  ge : ∀ k, Own g v k → w.heap.size < k
  gu : ∀ k, u.ownBlock = some k → w.heap.size < k
  gq : w.heap.size < q7
  b : Below w.heap.size w W
theorem box_ne {W : World} {b : Nat} {x u : Value} {T : TypeId} {l : List HL} (hb : Box W b x T) (hs : HSeg W u l) (hT : T ≠ 69) : u.ownBlock ≠ some b := fun e => by
  obtain ⟨_, cur, hc⟩ := hs.block b e
  have hb : W.heap[b]? = _ := hb
  rw [hc] at hb
  injection hb with hb
  injection hb with _ ht
  exact hT ht.symm
theorem box_own {W : World} {b g : Nat} {x v : Value} {T : TypeId} {S : HS} (hb : Box W b x T) (hl : LAt W g v S) (hT : T ≠ 69) (hT2 : T ≠ 87) : ¬ Own g v b := fun e => by
  rcases e with rfl | e
  · have hb : W.heap[b]? = _ := hb
    rw [hl.row] at hb
    injection hb with hb
    injection hb with _ ht
    exact hT2 ht.symm
  · exact box_ne hb hl.seg hT e
section
variable {w W W' : World} {q5 q7 g : Nat} {v u : Value} {S : HS} {all : List HL}
theorem KE.below (h : KE w q5 q7 g v u S all W) (hb : Below W.heap.size W W') : KE w q5 q7 g v u S all W' :=
  ⟨h.an.same (hb.block _ h.an.lt), h.hb.same (hb.block _ h.hb.lt), h.ab.same (hb.block _ h.ab.lt), h.l.below hb, h.a.below hb, h.d, h.ge, h.gu, h.gq, h.b.trans (hb.mono h.b.size)⟩
theorem KE.add (h : KE w q5 q7 g v u S all W) {S' : HS} (hp : LPost W g v S' W') : ∃ v', KE w q5 q7 g v' u S' all W' := by
  obtain ⟨v', hl, ht, ho⟩ := hp
  have nu : ∀ k, u.ownBlock = some k → ¬ Own g v k := fun k hk e => by
    rcases e with rfl | e
    · obtain ⟨_, cur, hc⟩ := h.a.block k hk
      rw [h.l.row] at hc
      injection hc with hc
      injection hc with _ ht
      exact absurd ht (by decide)
    · exact h.d k e hk
  refine ⟨v', ?_, ?_, ?_, hl, h.a.kept fun k hk => ht.block k (h.a.block k hk).1 (nu k hk), fun k hk e => ?_, ?_, h.gu, h.gq, h.b.trans (ht.below h.b.size fun k hk => Nat.le_of_lt (h.ge k hk))⟩
  · exact h.an.same (ht.block _ h.an.lt (box_own h.an h.l (by decide) (by decide)))
  · exact h.hb.same (ht.block _ h.hb.lt (box_own h.hb h.l (by decide) (by decide)))
  · exact h.ab.same (ht.block _ h.ab.lt (box_own h.ab h.l (by decide) (by decide)))
  · rcases ho k hk with e2 | e2
    · exact h.d k e2 e
    · have := (h.a.block k e).1
      omega
  · rintro k (rfl | hk)
    · exact h.ge k (.inl rfl)
    · rcases ho k hk with e2 | e2
      · exact h.ge k (.inr e2)
      · have := h.an.lt
        omega
theorem KE.app (h : KE w q5 q7 g v u S all W) {u' : Value} {all' : List HL} (hs : HSeg W' u' all') (ht : Touch (fun k => u.ownBlock = some k) W W') (ho : ∀ k, u'.ownBlock = some k → u.ownBlock = some k ∨ W.heap.size ≤ k) : KE w q5 q7 g v u' S all' (W'.setCell ⟨q7, 0, none⟩ u') := by
  have hq : Box W' q7 u 22 := h.ab.same (ht.block _ h.ab.lt (box_ne h.ab h.a (by decide)))
  have nq : q5 ≠ q7 := fun e => by
    have h1 : W.heap[q5]? = _ := h.hb
    have h2 : W.heap[q7]? = _ := h.ab
    rw [e, h2] at h1
    injection h1 with h1
    injection h1 with _ ht
    exact absurd ht (by decide)
  have hset : ∀ k, k ≠ q7 → (W'.setCell ⟨q7, 0, none⟩ u').heap[k]? = W'.heap[k]? := fun k hk => Below.heap_setCell _ _ _ k hk
  have no : ¬ Own g v q7 := box_own h.ab h.l (by decide) (by decide)
  have nu' : ∀ k, u'.ownBlock = some k → k ≠ q7 := fun k hk e => by
    subst e
    rcases ho _ hk with e2 | e2
    · exact box_ne h.ab h.a (by decide) e2
    · have := h.ab.lt
      omega
  have hu : ∀ k, u.ownBlock = some k → w.heap.size ≤ k := fun k hk => Nat.le_of_lt (h.gu k hk)
  have kt : ∀ k, k < W.heap.size → u.ownBlock ≠ some k → k ≠ q7 → (W'.setCell ⟨q7, 0, none⟩ u').heap[k]? = W.heap[k]? := fun k hk h1 h2 => (hset k h2).trans (ht.block k hk h1)
  have nv : ∀ k, Own g v k → u.ownBlock ≠ some k := fun k hk e => by
    rcases hk with rfl | hk
    · obtain ⟨_, cur, hc⟩ := h.a.block k e
      rw [h.l.row] at hc
      injection hc with hc
      injection hc with _ ht
      exact absurd ht (by decide)
    · exact h.d k hk e
  refine ⟨?_, ?_, ?_, ?_, ?_, fun k hk e => ?_, h.ge, fun k hk => ?_, h.gq, h.b.trans (Below.setCell (ht.below h.b.size hu) (Nat.le_of_lt h.gq) _)⟩
  · exact h.an.same (kt _ h.an.lt (box_ne h.an h.a (by decide)) (by have := h.gq; omega))
  · exact h.hb.same (kt _ h.hb.lt (box_ne h.hb h.a (by decide)) nq)
  · show _ = _
    rw [heap_setCell_same W' q7 0 _ _ _ hq]
    rfl
  · exact h.l.kept fun k hk => kt k (h.l.lt k hk) (nv k hk) fun e => no (e ▸ hk)
  · exact hs.kept fun k hk => hset k (nu' k hk)
  · rcases ho k e with e2 | e2
    · exact h.d k hk e2
    · have := h.l.lt k (.inr hk)
      omega
  · rcases ho k hk with e2 | e2
    · exact h.gu k e2
    · have := h.an.lt
      omega
end
end Go.Proofs.Ytojhppcnpjajaaa
