/-
  The document's parser in memory: its block, and the rows that are its own. No program is walked here, and nothing is assumed.
  The small functions of the document's parser: tell, fresh, list, gather, put.
  The small functions of the document's parser: fresh, list, gather, put.
  The document's parser: a digit, the next parameter.
  The document's parser: the next parameter.
-/
import Derived.Test.YtjoiagaadofndaaDoorVpTake2
import Derived.Test.YtjoiagaadofndaaDoorPieceM
import Derived.Test.YtjoiagaadofndaaDoorVpBound
import Derived.Test.YtjoiagaadofndaaDoorVrP
import Derived.Deep.RegionLaw
import Derived.Laws.Concat
import Derived.Laws.Runes
import Derived.Laws.BytesArg
namespace Go.Proofs.YtjoiagaadofndaaDoor
section
open Go.RowKit Go.Shelf Go.Lib

structure RefOk (S : PS) : Prop where
  ok : SOk S
  bey : S.beyond = true → S.ps.length = 16
def rpCells (S : PS) (hv pv ov : Value) : List Value := [.int .i64 S.st, hv, .int .u8 S.priv.toNat, pv, .int .i64 (manyP S), str S.inter, str S.text, .int .u8 S.fin.toNat, ov]
/-- the document's parser at q: what it holds, what it told (in rows from Bo on); O: the blocks that are its own, or new -/
structure RpIn (w : World) (q Bo : Nat) (O : Nat → Prop) (S : PS) (hv pv ov : Value) (xs : List (ActD × Value)) : Prop where
  row : w.heap[q]? = some (.cells (rpCells S hv pv ov).toArray 69 (0, 0))
  held : OwnsAt w 0 hv S.held
  ps : w.ownsRow 0 3 1 pv S.ps.length (intVals S.ps)
  out : w.ownsRow Bo 39 7 ov xs.length (actVals xs)
  acts : ∀ x ∈ xs, w.ownsRow Bo 3 1 x.2 x.1.ps.length (intVals x.1.ps) ∧ (∀ k, x.2.ownBlock = some k → O k ∧ pv.ownBlock ≠ some k)
  ownH : ∀ k, hv.ownBlock = some k → O k
  ownP : ∀ k, pv.ownBlock = some k → O k
  ownO : ∀ k, ov.ownBlock = some k → O k
  nq : ¬ O q
  base : Bo ≤ w.heap.size
  news : ∀ k, w.heap.size ≤ k → O k
  ok : RefOk S
def RpAt (w : World) (q Bo : Nat) (O : Nat → Prop) (S : PS) (al : List ActD) : Prop := ∃ hv pv ov xs, xs.map Prod.fst = al ∧ RpIn w q Bo O S hv pv ov xs
/-- what a call of the parser's may turn -/
abbrev Mine (q : Nat) (O : Nat → Prop) : Nat → Prop := fun k => k = q ∨ O k
def RpPost (w : World) (q Bo : Nat) (O : Nat → Prop) (S : PS) (al : List ActD) (e : Ending) (w' : World) : Prop := e = .returned (.tuple #[]) ∧ RpAt w' q Bo O S al ∧ Touch (Mine q O) w w'
theorem RpPost.after {w w1 : World} {q Bo : Nat} {O : Nat → Prop} {S : PS} {al : List ActD} {e : Ending} {w2 : World} (ht : Touch (Mine q O) w w1) (h : RpPost w1 q Bo O S al e w2) : RpPost w q Bo O S al e w2 := ⟨h.1, h.2.1, ht.trans h.2.2⟩
section
variable {w : World} {q Bo : Nat} {O : Nat → Prop} {S : PS} {hv pv ov : Value} {xs : List (ActD × Value)}
theorem RpIn.lt (h : RpIn w q Bo O S hv pv ov xs) : q < w.heap.size := (Array.getElem?_eq_some_iff.1 h.row).1
theorem RpIn.cell (h : RpIn w q Bo O S hv pv ov xs) {k : Nat} {v : Value} (hk : (rpCells S hv pv ov)[k]? = some v) : w.cell? ⟨q, k, none⟩ = some v := by
  rw [cell_of_row w q k _ _ _ h.row, List.getElem?_toArray]; exact hk
theorem RpIn.frozen (h : RpIn w q Bo O S hv pv ov xs) (k : Nat) : w.frozen? ⟨q, k, none⟩ = false := frozen_of_row w q k _ _ h.row
structure RCells (w : World) (q : Nat) (S : PS) (hv pv ov : Value) : Prop where
  c0 : w.cell? ⟨q, 0, none⟩ = some (.int .i64 S.st)
  c1 : w.cell? ⟨q, 1, none⟩ = some hv
  c2 : w.cell? ⟨q, 2, none⟩ = some (.int .u8 S.priv.toNat)
  c3 : w.cell? ⟨q, 3, none⟩ = some pv
  c4 : w.cell? ⟨q, 4, none⟩ = some (.int .i64 (manyP S))
  c5 : w.cell? ⟨q, 5, none⟩ = some (str S.inter)
  c6 : w.cell? ⟨q, 6, none⟩ = some (str S.text)
  c7 : w.cell? ⟨q, 7, none⟩ = some (.int .u8 S.fin.toNat)
  c8 : w.cell? ⟨q, 8, none⟩ = some ov
theorem RpIn.cells (h : RpIn w q Bo O S hv pv ov xs) : RCells w q S hv pv ov := ⟨h.cell rfl, h.cell rfl, h.cell rfl, h.cell rfl, h.cell rfl, h.cell rfl, h.cell rfl, h.cell rfl, h.cell rfl⟩
/-- another world in which all of it lies as it did, the block itself said anew -/
theorem RpIn.moved {w' : World} {S' : PS} (h : RpIn w q Bo O S hv pv ov xs) (hr : w'.heap[q]? = some (.cells (rpCells S' hv pv ov).toArray 69 (0, 0))) (hb : ∀ k, k ≠ q → k < w.heap.size → w'.heap[k]? = w.heap[k]?) (hz : w.heap.size ≤ w'.heap.size) (hh : S'.held = S.held) (hp : S'.ps = S.ps) (ok : RefOk S') : RpIn w' q Bo O S' hv pv ov xs := by
  have hne : ∀ k, O k → k ≠ q := fun k hk e => h.nq (e ▸ hk)
  refine ⟨hr, ?_, ?_, own_same h.out fun k hk => hb k (hne k (h.ownO k hk)) (own_lt h.out k hk).2, fun x hx => ⟨own_same (h.acts x hx).1 fun k hk => hb k (hne k ((h.acts x hx).2 k hk).1) (own_lt (h.acts x hx).1 k hk).2, (h.acts x hx).2⟩, h.ownH, h.ownP, h.ownO, h.nq, Nat.le_trans h.base hz, fun k hk => h.news k (Nat.le_trans hz hk), ok⟩
  · rw [hh]; exact h.held.kept fun k hk => hb k (hne k (h.ownH k hk)) (h.held.block k hk).2.1
  · rw [hp]; exact own_same h.ps fun k hk => hb k (hne k (h.ownP k hk)) (own_lt h.ps k hk).2
theorem RpIn.below {w' : World} (h : RpIn w q Bo O S hv pv ov xs) (hb : Below w.heap.size w w') : RpIn w' q Bo O S hv pv ov xs := h.moved ((hb.block q h.lt).trans h.row) (fun k _ hk => hb.block k hk) hb.size rfl rfl h.ok
/-- a cell of its own block is stored -/
theorem RpIn.store {S' : PS} (h : RpIn w q Bo O S hv pv ov xs) {k : Nat} {v : Value} (e : (rpCells S hv pv ov).set k v = rpCells S' hv pv ov) (hh : S'.held = S.held) (hp : S'.ps = S.ps) (ok : RefOk S') : RpIn (w.setCell ⟨q, k, none⟩ v) q Bo O S' hv pv ov xs := by
  refine h.moved ?_ (fun j hj _ => Below.heap_setCell w ⟨q, k, none⟩ v j hj) (by simp [World.setCell]) hh hp ok
  rw [Go.heap_setCell_same w q k _ _ v h.row, List.setIfInBounds_toArray, e]
theorem kind_ne {w : World} {k : Nat} {c1 c2 : Array Value} {t1 t2 : TypeId} {f1 f2 : Nat × Nat} (h1 : w.heap[k]? = some (.cells c1 t1 f1)) (h2 : w.heap[k]? = some (.cells c2 t2 f2)) (hne : t1 ≠ t2) : False := by
  rw [h1] at h2
  injection h2 with h2
  injection h2 with _ ht
  exact hne ht
theorem kinds_ne : 5 ≠ 3 ∧ 5 ≠ 39 ∧ 39 ≠ 3 := by decide
/-- the parameters' row turned, or is another -/
theorem RpIn.change {w' : World} {S' : PS} {pv' : Value} (h : RpIn w q Bo O S hv pv ov xs) (hr : w'.heap[q]? = some (.cells (rpCells S' hv pv' ov).toArray 69 (0, 0))) (hb : ∀ k, k ≠ q → k < w.heap.size → pv.ownBlock ≠ some k → w'.heap[k]? = w.heap[k]?) (hz : w.heap.size ≤ w'.heap.size)
    (hh : S'.held = S.held) (hp : w'.ownsRow 0 3 1 pv' S'.ps.length (intVals S'.ps)) (hpo : ∀ k, pv'.ownBlock = some k → pv.ownBlock = some k ∨ w.heap.size ≤ k) (ok : RefOk S') : RpIn w' q Bo O S' hv pv' ov xs := by
  have hne : ∀ k, O k → k ≠ q := fun k hk e => h.nq (e ▸ hk)
  refine ⟨hr, ?_, hp, own_same h.out fun k hk => hb k (hne k (h.ownO k hk)) (own_lt h.out k hk).2 (fun e => ?_), fun x hx => ⟨own_same (h.acts x hx).1 fun k hk => hb k (hne k ((h.acts x hx).2 k hk).1) (own_lt (h.acts x hx).1 k hk).2 ((h.acts x hx).2 k hk).2, fun k hk => ⟨((h.acts x hx).2 k hk).1, fun e => ?_⟩⟩, h.ownH, fun k hk => ?_, h.ownO, h.nq, Nat.le_trans h.base hz, fun k hk => h.news k (Nat.le_trans hz hk), ok⟩
  · rw [hh]
    refine h.held.kept fun k hk => hb k (hne k (h.ownH k hk)) (h.held.block k hk).2.1 fun e => ?_
    obtain ⟨c1, k1⟩ := (h.held.block k hk).2.2
    obtain ⟨c2, k2⟩ := own_kind h.ps e
    exact kind_ne k1 k2 kinds_ne.1
  · obtain ⟨c1, k1⟩ := own_kind h.out hk
    obtain ⟨c2, k2⟩ := own_kind h.ps e
    exact kind_ne k1 k2 kinds_ne.2.2
  · rcases hpo k e with e1 | e1
    · exact ((h.acts x hx).2 k hk).2 e1
    · have := (own_lt (h.acts x hx).1 k hk).2
      omega
  · rcases hpo k hk with e1 | e1
    · exact h.ownP k e1
    · exact h.news k e1
/-- an action was told: the row of actions grew, then the block was written -/
theorem RpIn.told {w1 : World} {v' : Value} {c : ActD} {cv : Value} (h : RpIn w q Bo O S hv pv ov xs) (hg : w.grownBy w1 ov.ownBlock) (hn : w1.ownsRow Bo 39 7 v' (xs.length + 1) (actVals xs ++ actCells (c, cv))) (hv' : v'.ownBlock = ov.ownBlock ∨ v'.ownBlock = some w.heap.size)
    (hc : w.ownsRow Bo 3 1 cv c.ps.length (intVals c.ps)) (hO : ∀ k, cv.ownBlock = some k → O k ∧ pv.ownBlock ≠ some k) : RpIn (w1.setCell ⟨q, 8, none⟩ v') q Bo O S hv pv v' (xs ++ [(c, cv)]) := by
  have hne : ∀ k, O k → k ≠ q := fun k hk e => h.nq (e ▸ hk)
  have hq1 : w1.heap[q]? = some (.cells (rpCells S hv pv ov).toArray 69 (0, 0)) := (hg.block q h.lt fun e => h.nq (h.ownO q e.symm)).trans h.row
  have hs : ∀ k, k ≠ q → (w1.setCell ⟨q, 8, none⟩ v').heap[k]? = w1.heap[k]? := fun k hk => Below.heap_setCell w1 ⟨q, 8, none⟩ v' k hk
  have hz : w.heap.size ≤ (w1.setCell ⟨q, 8, none⟩ v').heap.size := by simp [World.setCell]; exact hg.size
  have hint : ∀ {v : Value} {n : Nat} {zs : List Value} {B : Nat}, w.ownsRow B 3 1 v n zs → (∀ k, v.ownBlock = some k → O k) → (w1.setCell ⟨q, 8, none⟩ v').ownsRow B 3 1 v n zs := fun h1 h2 =>
    own_same h1 fun k hk => (hs k (hne k (h2 k hk))).trans (hg.block k (own_lt h1 k hk).2 fun e => by
      obtain ⟨c1, k1⟩ := own_kind h1 hk
      obtain ⟨c2, k2⟩ := own_kind h.out e.symm
      exact kind_ne k2 k1 kinds_ne.2.2)
  have hnew : ∀ k, v'.ownBlock = some k → O k := fun k hk => by
    rcases hv' with e | e
    · exact h.ownO k (e.symm.trans hk)
    · rw [hk] at e
      injection e with e
      exact h.news k (by omega)
  refine ⟨?_, ?_, hint h.ps h.ownP, ?_, fun x hx => ?_, h.ownH, h.ownP, hnew, h.nq, Nat.le_trans h.base hz, fun k hk => h.news k (Nat.le_trans hz hk), h.ok⟩
  · rw [Go.heap_setCell_same w1 q 8 _ _ v' hq1, List.setIfInBounds_toArray]
    rfl
  · refine h.held.kept fun k hk => (hs k (hne k (h.ownH k hk))).trans (hg.block k (h.held.block k hk).2.1 fun e => ?_)
    obtain ⟨c1, k1⟩ := (h.held.block k hk).2.2
    obtain ⟨c2, k2⟩ := own_kind h.out e.symm
    exact kind_ne k1 k2 kinds_ne.2.1
  · have e1 : (xs ++ [(c, cv)]).length = xs.length + 1 := by simp
    have e2 : actVals (xs ++ [(c, cv)]) = actVals xs ++ actCells (c, cv) := by rw [actVals_append]; simp [actVals]
    rw [e1, e2]
    exact own_same hn fun k hk => hs k (hne k (hnew k hk))
  · rcases List.mem_append.1 hx with hx | hx
    · exact ⟨hint (h.acts x hx).1 fun k hk => ((h.acts x hx).2 k hk).1, (h.acts x hx).2⟩
    · simp at hx
      subst hx
      exact ⟨hint hc fun k hk => (hO k hk).1, hO⟩
theorem mine_set (w : World) (q : Nat) (O : Nat → Prop) (k : Nat) (v : Value) : Touch (Mine q O) w (w.setCell ⟨q, k, none⟩ v) := Touch.setCell w ⟨q, k, none⟩ v (.inl rfl)
theorem mine_below {w w' : World} (q : Nat) (O : Nat → Prop) (h : Below w.heap.size w w') : Touch (Mine q O) w w' := Touch.of_below h
end
end

section
open Go.RowKit Go.Shelf Go.Lib
attribute [local go_sem] Oper.semAt_some

/-- an append of what lies in a block -/
theorem wpList_append_src {ops : Array Oper} {rest : List Oper} {o : Oper} {a : Act} {w : World} {Q : Exit → Act → World → Prop} (t e : TypeId) (i : TypeInfo) (z : Value) (size bytes : Nat) (ht : Tryd.prog.underlying t = some (.slice e)) (hi : Tryd.prog.info? e = some i) (hz : i.zero = some z)
    (hsize : i.size = size) (hby : i.bytes = bytes) (hzs : z.cells.size = size) (hsz : 0 < size) (hgd : o.guard = none) (s x : Operand) (ho : o.op = .call { callee := .builtin .append, args := #[s, x], argTypes := #[t, t] })
    (base : Nat) (v : Value) (n : Nat) (xs : List Value) (hs : a.eval s = v) (hown : w.ownsRow base e size v n xs) {A : Option Addr} {c m : Nat} {news : List Value} (hx : a.eval x = .slice A m c) (hsrc : Src w size A c m news) (h1 : ∀ u ∈ news, u.oneCell' = true)
    (h63 : n + m ≤ maxLen) (hbytes : (n + m) * bytes ≤ 140737488355328) (hbase : base ≤ w.heap.size)
    (h : ∀ v' w', w'.ownsRow base e size v' (n + m) (xs ++ news) → w.grownBy w' v.ownBlock → (v'.ownBlock = v.ownBlock ∨ v'.ownBlock = some w.heap.size) → wpList Tryd.prog ops Q rest (a.put o.dst v') w') : wpList Tryd.prog ops Q (o :: rest) a w := by
  refine wpList_plain hgd fun K hK => ?_
  obtain ⟨v', w', hrun, r1, r2, r3⟩ := run_append_src (P := Tryd.prog) w base t o.type e i z size bytes ht hi hz hsize hby hzs hsz v n xs hown hsrc h1 h63 hbytes hbase
  unfold Oper.wp
  simp [execOp, ho, resolve, invoke, builtin, hs, hx, hrun, Result.andThen]
  exact hK _ _ (h v' w' r1 r2 r3)
/-- the same, as one step of a region that draws -/
theorem step_append_src {ops : Array Oper} {o : Oper} {a : Act} {w : World} {K : Act → World → Prop} {Q : Exit → Act → World → Prop} {E : Prop} (t e : TypeId) (i : TypeInfo) (z : Value) (size bytes : Nat) (ht : Tryd.prog.underlying t = some (.slice e)) (hi : Tryd.prog.info? e = some i) (hz : i.zero = some z)
    (hsize : i.size = size) (hby : i.bytes = bytes) (hzs : z.cells.size = size) (hsz : 0 < size) (hgd : o.guard = none) (s x : Operand) (ho : o.op = .call { callee := .builtin .append, args := #[s, x], argTypes := #[t, t] })
    (base : Nat) (v : Value) (n : Nat) (xs : List Value) (hs : a.eval s = v) (hown : w.ownsRow base e size v n xs) {A : Option Addr} {c m : Nat} {news : List Value} (hx : a.eval x = .slice A m c) (hsrc : Src w size A c m news) (h1 : ∀ u ∈ news, u.oneCell' = true)
    (h63 : n + m ≤ maxLen) (hbytes : (n + m) * bytes ≤ 140737488355328) (hbase : base ≤ w.heap.size)
    (h : ∀ v' w', w'.ownsRow base e size v' (n + m) (xs ++ news) → w.grownBy w' v.ownBlock → (v'.ownBlock = v.ownBlock ∨ v'.ownBlock = some w.heap.size) → K (a.put o.dst v') w') :
    if Region.wanted o (yielded ops a.tmps) = true then Oper.wp Tryd.prog o a w K Q else E := by
  have hw : Region.wanted o (yielded ops a.tmps) = true := by simp [Region.wanted, hgd]
  rw [if_pos hw]
  obtain ⟨v', w', hrun, r1, r2, r3⟩ := run_append_src (P := Tryd.prog) w base t o.type e i z size bytes ht hi hz hsize hby hzs hsz v n xs hown hsrc h1 h63 hbytes hbase
  unfold Oper.wp
  simp [execOp, ho, resolve, invoke, builtin, hs, hx, hrun, Result.andThen]
  exact h v' w' r1 r2 r3
theorem src_block {w : World} {size g cp m : Nat} {cs : Array Value} {t : TypeId} {fr : Nat × Nat} {xs : List Value} (h : w.heap[g]? = some (.cells cs t fr)) (hcs : cs.toList = xs) (hl : xs.length = m * size) : Src w size (some ⟨g, 0, none⟩) cp m xs :=
  ⟨hl, (fun e => by cases e), fun _ => ⟨g, 0, rfl, (Array.getElem?_eq_some_iff.1 h).1, fun j u hu => by
    rw [Nat.zero_add, cell_of_row w g j _ _ _ h, ← Array.getElem?_toList, hcs]
    exact hu⟩⟩
theorem RpIn.grownCells {w w' : World} {q Bo : Nat} {O : Nat → Prop} {S : PS} {hv pv ov v : Value} {xs : List (ActD × Value)} (h : RpIn w q Bo O S hv pv ov xs) (hg : w.grownBy w' v.ownBlock) (hO : ∀ k, v.ownBlock = some k → O k) : RCells w' q S hv pv ov ∧ ∀ k, w'.frozen? ⟨q, k, none⟩ = false := by
  have hr : w'.heap[q]? = some (.cells (rpCells S hv pv ov).toArray 69 (0, 0)) := (hg.block q h.lt fun e => h.nq (hO q e.symm)).trans h.row
  have hc : ∀ k v, (rpCells S hv pv ov)[k]? = some v → w'.cell? ⟨q, k, none⟩ = some v := fun k v hk => by
    rw [cell_of_row w' q k _ _ _ hr, List.getElem?_toArray]; exact hk
  exact ⟨⟨hc _ _ rfl, hc _ _ rfl, hc _ _ rfl, hc _ _ rfl, hc _ _ rfl, hc _ _ rfl, hc _ _ rfl, hc _ _ rfl, hc _ _ rfl⟩, fun k => frozen_of_row w' q k _ _ hr⟩
theorem undrew {w w' : World} {row : Option Nat} (h : w.drew.grownBy w' row) : w.grownBy w' row := ⟨h.os, h.tape, h.output, h.size, h.block⟩
theorem grown_mine {w w' : World} {q : Nat} {O : Nat → Prop} {v : Value} (h : w.grownBy w' v.ownBlock) (hO : ∀ k, v.ownBlock = some k → O k) : Touch (Mine q O) w w' := Touch.of_grown h fun k hk => .inr (hO k hk)

set_option maxRecDepth 1000000 in
set_option maxHeartbeats 2000000 in
theorem tell_any (w : World) (q Bo : Nat) (O : Nat → Prop) (S : PS) (hv pv ov : Value) (xs : List (ActD × Value)) (h : RpIn w q Bo O S hv pv ov xs) (c : ActD) (cv : Value) (hc : w.ownsRow Bo 3 1 cv c.ps.length (intVals c.ps)) (hO : ∀ k, cv.ownBlock = some k → O k ∧ pv.ownBlock ≠ some k) (hl : xs.length ≤ 900000000) :
    Calls Tryd.prog 46 #[.pointer (some ⟨q, 0, none⟩), actVal c cv] w fun e w' => e = .returned (.tuple #[]) ∧ (∃ ov', RpIn w' q Bo O S hv pv ov' (xs ++ [(c, cv)])) ∧ Touch (fun k => k = q ∨ ov.ownBlock = some k) w w' := by
  obtain ⟨i, hi, hz, hs2, hby⟩ := info_parts info_act
  obtain ⟨A, cap, hov, _⟩ := own_form h.out
  have hone := actCells_one (a := c) (slice_one hc)
  have hb1 := (Below.refl w.heap.size w).alloc (Nat.le_refl _) (.cells #[.int .i64 c.kind, .int .i32 c.rune, .int .u8 c.fin.toNat, .int .u8 c.priv.toNat, cv, str c.inter, str c.text] 39)
  have hb2 := hb1.alloc (by simp) (.cells #[.int .i64 c.kind, .int .i32 c.rune, .int .u8 c.fin.toNat, .int .u8 c.priv.toNat, cv, str c.inter, str c.text] 39)
  have HO := Lib.hid hO
  have HL := Lib.hid hl
  have h1 := h.below hb1
  have h2 := h.below hb2
  have HC := Lib.hid (own_below hc hb2)
  have HX := Lib.hid (alloc_two w (.cells #[.int .i64 c.kind, .int .i32 c.rune, .int .u8 c.fin.toNat, .int .u8 c.priv.toNat, cv, str c.inter, str c.text] 39) (.cells #[.int .i64 c.kind, .int .i32 c.rune, .int .u8 c.fin.toNat, .int .u8 c.priv.toNat, cv, str c.inter, str c.text] 39))
  have HB := Lib.hid hb2
  have hx := heap_alloc_new w (.cells #[.int .i64 c.kind, .int .i32 c.rune, .int .u8 c.fin.toNat, .int .u8 c.priv.toNat, cv, str c.inter, str c.text] 39)
  subst hov
  go_enter Tryd.func46, Tryd.ntmps46
  go_wp2
  have hsz : (w.alloc (.cells #[.int .i64 c.kind, .int .i32 c.rune, .int .u8 c.fin.toNat, .int .u8 c.priv.toNat, cv, str c.inter, str c.text] 39)).heap.size = w.heap.size + 1 := by simp
  change Code.wp _ _ _ _ (w.alloc (.cells #[.int .i64 c.kind, .int .i32 c.rune, .int .u8 c.fin.toNat, .int .u8 c.priv.toNat, cv, str c.inter, str c.text] 39))
  generalize w.alloc (.cells #[.int .i64 c.kind, .int .i32 c.rune, .int .u8 c.fin.toNat, .int .u8 c.priv.toNat, cv, str c.inter, str c.text] 39) = w1 at *
  have x0 : w1.drew.cell? ⟨w.heap.size, 0, none⟩ = some (.int .i64 c.kind) := cell_of_row _ _ 0 _ _ _ hx
  have x1 : w1.drew.cell? ⟨w.heap.size, 1, none⟩ = some (.int .i32 c.rune) := cell_of_row _ _ 1 _ _ _ hx
  have x2 : w1.drew.cell? ⟨w.heap.size, 2, none⟩ = some (.int .u8 c.fin.toNat) := cell_of_row _ _ 2 _ _ _ hx
  have x3 : w1.drew.cell? ⟨w.heap.size, 3, none⟩ = some (.int .u8 c.priv.toNat) := cell_of_row _ _ 3 _ _ _ hx
  have x4 : w1.drew.cell? ⟨w.heap.size, 4, none⟩ = some cv := cell_of_row _ _ 4 _ _ _ hx
  have x5 : w1.drew.cell? ⟨w.heap.size, 5, none⟩ = some (str c.inter) := cell_of_row _ _ 5 _ _ _ hx
  have x6 : w1.drew.cell? ⟨w.heap.size, 6, none⟩ = some (str c.text) := cell_of_row _ _ 6 _ _ _ hx
  have k1 : w1.drew.cell? ⟨q, 8, none⟩ = some (.slice A xs.length cap) := h1.cells.c8
  have k2 : (w1.alloc (.cells #[.int .i64 c.kind, .int .i32 c.rune, .int .u8 c.fin.toNat, .int .u8 c.priv.toNat, cv, str c.inter, str c.text] 39)).cell? ⟨q, 8, none⟩ = some (.slice A xs.length cap) := h2.cells.c8
  have H2 := Lib.hid h2
  have HH : Hid (w1.drew.alloc (.cells #[.int .i64 c.kind, .int .i32 c.rune, .int .u8 c.fin.toNat, .int .u8 c.priv.toNat, cv, str c.inter, str c.text] 39) = (w1.alloc (.cells #[.int .i64 c.kind, .int .i32 c.rune, .int .u8 c.fin.toNat, .int .u8 c.priv.toNat, cv, str c.inter, str c.text] 39)).drew) := Lib.hid rfl
  clear h h1 h2 hc hO hb1 hb2 hl hx
  go_region_law (refine step_append_src 25 39 i _ 7 72 Tryd.underlying25 hi hz hs2 hby rfl (by decide) (by rfl) _ _ (by rfl) Bo (.slice A xs.length cap) xs.length (actVals xs) (by rfl) (by exact H2.out.out) (by rfl) (src_block (xs := actCells (c, cv)) (by exact HX.out) (by rfl) (by rfl)) hone (by have := HL.out; unfold maxLen; omega) (by have := HL.out; omega) (by exact H2.out.base) ?_; intro v' w' hr' hg0 hv2; have hg' := undrew hg0; clear hg0; obtain ⟨A', c', hv', _⟩ := own_form hr'; subst hv'; have HR := Lib.hid hr'; have HG := Lib.hid hg'; have HV2 := Lib.hid hv2; have hrow := H2.out.grownCells (w' := w') (v := .slice A xs.length cap) hg' H2.out.ownO; have kc := hrow.1.c8; have kf := hrow.2 8; clear hr' hg' hv2 hrow)
  all_goals
    go_wp2
    go_end0
    exact ⟨rfl, ⟨_, H2.out.told HG.out HR.out HV2.out HC.out HO.out⟩, ((Touch.of_below HB.out).trans (Touch.of_grown HG.out fun k hk => .inr hk)).trans (Touch.setCell _ ⟨q, 8, none⟩ _ (.inl rfl))⟩
/-- a row of runes stays where an action is told -/
theorem RpIn.runes {w w' : World} {q Bo : Nat} {O : Nat → Prop} {S : PS} {hv pv ov : Value} {xs : List (ActD × Value)} (h : RpIn w q Bo O S hv pv ov xs) {Br n : Nat} {rv : Value} {zs : List Value} (hr : w.ownsRow Br 21 1 rv n zs) (ht : Touch (fun k => k = q ∨ ov.ownBlock = some k) w w') : w'.ownsRow Br 21 1 rv n zs :=
  own_same hr fun k hk => ht.block k (own_lt hr k hk).2 fun t => by
    obtain ⟨c1, k1⟩ := own_kind hr hk
    rcases t with rfl | t
    · exact kind_ne h.row k1 (by decide)
    · obtain ⟨c2, k2⟩ := own_kind h.out t
      exact kind_ne k2 k1 (by decide)
theorem RpIn.mine {w w' : World} {q Bo : Nat} {O : Nat → Prop} {S : PS} {hv pv ov : Value} {xs : List (ActD × Value)} (h : RpIn w q Bo O S hv pv ov xs) (ht : Touch (fun k => k = q ∨ ov.ownBlock = some k) w w') : Touch (Mine q O) w w' :=
  ht.mono fun k _ t => t.elim .inl fun e => .inr (h.ownO k e)
/-- an action without parameters is told -/
theorem tell_nil (w : World) (q Bo : Nat) (O : Nat → Prop) (S : PS) (al : List ActD) (h : RpAt w q Bo O S al) (c : ActD) (hc : c.ps = []) (hl : al.length ≤ 900000000) :
    Calls Tryd.prog 46 #[.pointer (some ⟨q, 0, none⟩), actVal c (.slice none 0 0)] w (RpPost w q Bo O S (al ++ [c])) := by
  obtain ⟨hv, pv, ov, xs, e1, h⟩ := h
  have hl' : xs.length ≤ 900000000 := by rw [← List.length_map (f := Prod.fst), e1]; exact hl
  refine (tell_any w q Bo O S hv pv ov xs h c (.slice none 0 0) (by rw [hc]; exact World.ownsRow_nil _ _ _ _) (fun k hk => by cases hk) hl').mono ?_
  rintro e w' ⟨rfl, ⟨ov', h'⟩, ht⟩
  exact ⟨rfl, ⟨hv, pv, ov', _, by simp [e1], h'⟩, h.mine ht⟩
end

section
open Go.RowKit Go.Shelf Go.Lib
attribute [local go_sem] Oper.semAt_some

theorem RpIn.drew {w : World} {q Bo : Nat} {O : Nat → Prop} {S : PS} {hv pv ov : Value} {xs : List (ActD × Value)} (h : RpIn w q Bo O S hv pv ov xs) : RpIn w.drew q Bo O S hv pv ov xs := h.below ⟨rfl, rfl, rfl, Nat.le_refl _, fun _ _ => rfl⟩
theorem row_set {w : World} {q k : Nat} {L : List Value} {T : TypeId} (v : Value) (h : w.heap[q]? = some (.cells L.toArray T (0, 0))) : (w.setCell ⟨q, k, none⟩ v).heap[q]? = some (.cells (L.set k v).toArray T (0, 0)) := by
  rw [Go.heap_setCell_same w q k _ _ v h, List.setIfInBounds_toArray]
theorem refOk_fresh (S : PS) : RefOk (freshP S) := ⟨SOk.fresh S, fun h => by cases h⟩
set_option maxRecDepth 1000000 in
set_option maxHeartbeats 2000000 in
theorem rfresh_any (w : World) (q Bo : Nat) (O : Nat → Prop) (S : PS) (al : List ActD) (h : RpAt w q Bo O S al) : Calls Tryd.prog 52 #[.pointer (some ⟨q, 0, none⟩)] w (RpPost w q Bo O (freshP S) al) := by
  obtain ⟨hv, pv, ov, xs, e1, h⟩ := h
  have f2 := h.frozen 2
  have f3 := h.frozen 3
  have f4 := h.frozen 4
  have f5 := h.frozen 5
  have f6 := h.frozen 6
  have f7 := h.frozen 7
  have c2 := h.cells.c2
  have c3 := h.cells.c3
  have c4 := h.cells.c4
  have c5 := h.cells.c5
  have c6 := h.cells.c6
  have c7 := h.cells.c7
  have HR := Lib.hid (row_set (k := 7) (.int .u8 0) (row_set (k := 6) (.string ⟨#[]⟩) (row_set (k := 5) (.string ⟨#[]⟩) (row_set (k := 4) (.int .i64 0) (row_set (k := 3) (.slice none 0 0) (row_set (k := 2) (.int .u8 0) h.row))))))
  have H := Lib.hid h
  have E1 := Lib.hid e1
  clear h e1
  go_enter Tryd.func52, Tryd.ntmps52
  go_wp2
  go_end0
  refine ⟨rfl, ⟨hv, .slice none 0 0, ov, xs, E1.out, H.out.change HR.out (fun k hk _ _ => ?_) (by simp [World.setCell]) rfl (World.ownsRow_nil _ _ _ _) (fun k hk => by cases hk) (refOk_fresh S)⟩, ?_⟩
  · have hs : ∀ (W : World) (j : Nat) (v : Value), (W.setCell ⟨q, j, none⟩ v).heap[k]? = W.heap[k]? := fun W j v => Below.heap_setCell W ⟨q, j, none⟩ v k hk
    rw [hs, hs, hs, hs, hs, hs]
  · exact (((((mine_set _ q O _ _).trans (mine_set _ q O _ _)).trans (mine_set _ q O _ _)).trans (mine_set _ q O _ _)).trans (mine_set _ q O _ _)).trans (mine_set _ q O _ _)

set_option maxRecDepth 1000000 in
set_option maxHeartbeats 2000000 in
theorem list_any (w : World) (q Bo : Nat) (O : Nat → Prop) (S : PS) (hv pv ov : Value) (xs : List (ActD × Value)) (h : RpIn w q Bo O S hv pv ov xs) :
    Calls Tryd.prog 51 #[.pointer (some ⟨q, 0, none⟩)] w fun e w' => ∃ v, e = .returned v ∧ w'.ownsRow w.heap.size 3 1 v S.ps.length (intVals S.ps) ∧ Below w.heap.size w w' := by
  obtain ⟨i, hi, hz, hs2, hby⟩ := info_parts info_i64
  have h16 := h.ok.ok.ps16
  have c3 := h.cells.c3
  obtain ⟨A, cap, hpv, _, hsrc⟩ := own_src h.ps
  subst hpv
  have HS := Lib.hid hsrc
  have HL := Lib.hid h16
  clear h hsrc h16
  go_enter Tryd.func51, Tryd.ntmps51
  go_wp2_with (at_builtin; refine wpList_append_src 37 3 i _ 1 8 Tryd.underlying37 hi hz hs2 hby rfl (by decide) (by rfl) _ _ (by rfl) w.heap.size (.slice none 0 0) 0 [] (by rfl) (World.ownsRow_nil _ _ _ _) (by rfl) HS.out (intVals_one _) (by have := HL.out; unfold maxLen; omega) (by have := HL.out; omega) (Nat.le_refl _) ?_; intro v' w' hr' hg' hv2; have HR := Lib.hid hr'; have HG := Lib.hid hg'; clear hr' hg' hv2)
  go_ret
  refine ⟨_, rfl, ?_, grown_below HG.out (Nat.le_refl _) fun k hk => by cases hk⟩
  have := HR.out
  rw [Nat.zero_add, List.nil_append] at this
  exact this

theorem str_add (a b : List UInt8) (ha : a.length ≤ 8388608) (hb : b.length ≤ 8388608) (W : World) : (Op.stringOp .add ⟨a.toArray⟩ ⟨b.toArray⟩).run Tryd.prog W = .ok (str (a ++ b)) W := run_string_add_lists W a b (by omega) (by omega)
theorem enc_low (b : UInt8) (h : b.toNat < 128) : Utf8.encode (b.toNat : Int) = ⟨#[b]⟩ := by
  have : Utf8.valid (b.toNat : Int) = true := by simp [Utf8.valid]; omega
  unfold Utf8.encode
  simp [this, h]
set_option maxRecDepth 1000000 in
set_option maxHeartbeats 2000000 in
theorem gather_any (w : World) (q Bo : Nat) (O : Nat → Prop) (S : PS) (al : List ActD) (b : UInt8) (h : RpAt w q Bo O S al) (hb : b.toNat < 128) : Calls Tryd.prog 71 #[.pointer (some ⟨q, 0, none⟩), .int .u8 b.toNat] w (RpPost w q Bo O (addInterP S b) al) := by
  obtain ⟨hv, pv, ov, xs, e1, h⟩ := h
  have f5 := h.frozen 5
  have c5 := h.cells.c5
  have hin := h.ok.ok.inter2
  have H := Lib.hid h
  have E1 := Lib.hid e1
  have hsz : (⟨S.inter.toArray⟩ : ByteArray).size = S.inter.length := by simp [ByteArray.size]
  by_cases h2 : S.inter.length < 2
  · have he : addInterP S b = { S with inter := S.inter ++ [b] } := by unfold addInterP; rw [if_pos h2]
    rw [he]
    have HN := Lib.hid (h.store (k := 5) (v := str (S.inter ++ [b])) (S' := { S with inter := S.inter ++ [b] }) rfl rfl rfl ⟨⟨h.ok.ok.ps16, h.ok.ok.ints, by simp; omega, h.ok.ok.text⟩, h.ok.bey⟩)
    have hadd := str_add S.inter [b] (by omega) (by simp)
    have henc := enc_low b hb
    have hw32 : wrap32 (b.toNat : Int) = (b.toNat : Int) := by unfold wrap32; omega
    have hlt : (((S.inter.length : Nat) : Int) < 2) = True := by simp; omega
    clear h e1 he hin h2 hb
    generalize S.inter = l at *
    go_enter Tryd.func71, Tryd.ntmps71
    go_wp2
    go_end0
    exact ⟨rfl, ⟨hv, pv, ov, xs, E1.out, HN.out⟩, mine_set _ q O 5 _⟩
  · have he : addInterP S b = S := by unfold addInterP; rw [if_neg h2]
    rw [he]
    have hlt : (((S.inter.length : Nat) : Int) < 2) = False := by simp; omega
    clear h e1 he hin h2 hb
    generalize S.inter = l at *
    go_enter Tryd.func71, Tryd.ntmps71
    go_wp2
    go_end0
    exact ⟨rfl, ⟨hv, pv, ov, xs, E1.out, H.out⟩, Touch.refl _ _⟩
set_option maxRecDepth 1000000 in
set_option maxHeartbeats 2000000 in
theorem putT_any (w : World) (q Bo : Nat) (O : Nat → Prop) (S : PS) (al : List ActD) (b : UInt8) (h : RpAt w q Bo O S al) : Calls Tryd.prog 69 #[.pointer (some ⟨q, 0, none⟩), .int .u8 b.toNat] w (RpPost w q Bo O (addTextP S b) al) := by
  obtain ⟨hv, pv, ov, xs, e1, h⟩ := h
  have f6 := h.frozen 6
  have c6 := h.cells.c6
  have hin := h.ok.ok.text
  have H := Lib.hid h
  have E1 := Lib.hid e1
  have hsz : (⟨S.text.toArray⟩ : ByteArray).size = S.text.length := by simp [ByteArray.size]
  by_cases h2 : S.text.length < 1024
  · have he : addTextP S b = { S with text := S.text ++ [b] } := by unfold addTextP; rw [if_pos h2]
    rw [he]
    have hb1 := (Below.refl w.heap.size w).alloc (Nat.le_refl _) (.cells #[.int .u8 b.toNat] 5)
    have h1 := h.below hb1
    have HN := Lib.hid (h1.store (k := 6) (v := str (S.text ++ [b])) (S' := { S with text := S.text ++ [b] }) rfl rfl rfl ⟨⟨h.ok.ok.ps16, h.ok.ok.ints, h.ok.ok.inter2, by simp; omega⟩, h.ok.bey⟩)
    have HB := Lib.hid hb1
    have hadd := str_add S.text [b] (by omega) (by simp)
    have hcv : (convert 22 9 (.slice (some ⟨w.heap.size, 0, none⟩) 1 1)).run Tryd.prog (w.alloc (.cells #[.int .u8 b.toNat] 5)).drew = .ok (str [b]) (w.alloc (.cells #[.int .u8 b.toNat] 5)).drew := by
      have := run_convert_bytes_arg (P := Tryd.prog) (w.alloc (.cells #[.int .u8 b.toNat] 5)).drew 22 5 Tryd.underlying22 Tryd.underlying5 w.heap.size 0 1 1 [(b.toNat : Int)] rfl (fun i hi => by
        obtain rfl : i = 0 := by omega
        exact cell_of_row _ _ 0 _ _ _ (heap_alloc_new w _)) 9 Tryd.underlying9
      rw [this]
      simp [strOfNums]
    have c6' := h1.cells.c6
    have f6' := h1.frozen 6
    have hlt : (((S.text.length : Nat) : Int) < 1024) = True := by simp; omega
    clear h h1 hb1 e1 he hin h2
    generalize S.text = l at *
    go_enter Tryd.func69, Tryd.ntmps69
    go_wp2
    go_region
    all_goals
      go_wp2
      go_end0
      exact ⟨rfl, ⟨hv, pv, ov, xs, E1.out, HN.out.drew⟩, ((mine_below q O HB.out).trans (mine_set _ q O 6 _)).drew⟩
  · have he : addTextP S b = S := by unfold addTextP; rw [if_neg h2]
    rw [he]
    have hlt : (((S.text.length : Nat) : Int) < 1024) = False := by simp; omega
    clear h e1 he hin h2
    generalize S.text = l at *
    go_enter Tryd.func69, Tryd.ntmps69
    go_wp2
    go_end0
    exact ⟨rfl, ⟨hv, pv, ov, xs, E1.out, H.out⟩, Touch.refl _ _⟩
end

section
open Go.RowKit Go.Shelf Go.Lib
attribute [local go_sem] Oper.semAt_some

theorem refOk_begin {S : PS} (h : RefOk S) : RefOk (beginP S) := ⟨h.ok.begin.1, fun hb => by
  unfold beginP at hb ⊢
  split
  · assumption
  · next hn => rw [if_neg hn] at hb; exact absurd (h.bey hb) hn⟩
theorem refOk_begun {S : PS} (h : RefOk S) : RefOk (begunP S) := by
  unfold begunP
  split
  · exact refOk_begin h
  · exact h
theorem digit_len {S : PS} (hne : S.ps ≠ []) (b : UInt8) : (digitP S b).ps.length = S.ps.length ∧ (digitP S b).beyond = S.beyond := by
  have hp := List.length_pos_iff.2 hne
  unfold digitP
  split
  · exact ⟨rfl, rfl⟩
  · simp; omega
theorem refOk_digit {S : PS} (h : RefOk S) (b : UInt8) (hb : 48 ≤ b.toNat) (hne : S.ps ≠ []) : RefOk (digitP S b) := ⟨(h.ok.digit b hb hne).1, fun hq => by
  rw [(digit_len hne b).1]; exact h.bey ((digit_len hne b).2.symm.trans hq)⟩
theorem many_digit {S : PS} (hne : S.ps ≠ []) (b : UInt8) : manyP (digitP S b) = manyP S := by
  unfold manyP
  rw [(digit_len hne b).1, (digit_len hne b).2]

/-- the first parameter begins -/
theorem RpIn.first {w : World} {q Bo : Nat} {O : Nat → Prop} {S : PS} {hv pv ov : Value} {xs : List (ActD × Value)} (h : RpIn w q Bo O S hv pv ov xs) (h0 : S.ps.length = 0) :
    RpIn (((w.setCell ⟨q, 4, none⟩ (.int .i64 1)).alloc (.cells #[.int .i64 (-1)] 3)).setCell ⟨q, 3, none⟩ (.slice (some ⟨w.heap.size, 0, none⟩) 1 1)) q Bo O (beginP S) hv (.slice (some ⟨w.heap.size, 0, none⟩) 1 1) ov xs := by
  have hlt := h.lt
  have hps : S.ps = [] := List.eq_nil_of_length_eq_zero h0
  have hbe : S.beyond = false := by
    cases hb : S.beyond with
    | false => rfl
    | true => have := h.ok.bey hb; omega
  have hbp : beginP S = { S with ps := [-1] } := by unfold beginP; rw [if_neg (by omega), hps]; rfl
  have hsz : (w.setCell ⟨q, 4, none⟩ (.int .i64 1)).heap.size = w.heap.size := by simp [World.setCell]
  have hr : ((((w.setCell ⟨q, 4, none⟩ (.int .i64 1)).alloc (.cells #[.int .i64 (-1)] 3)).setCell ⟨q, 3, none⟩ (.slice (some ⟨w.heap.size, 0, none⟩) 1 1)).heap[q]? = some (.cells (rpCells (beginP S) hv (.slice (some ⟨w.heap.size, 0, none⟩) 1 1) ov).toArray 69 (0, 0))) := by
    have h1 := row_set (k := 4) (.int .i64 1) h.row
    have h2 : ((w.setCell ⟨q, 4, none⟩ (.int .i64 1)).alloc (.cells #[.int .i64 (-1)] 3)).heap[q]? = _ := (Below.heap_alloc _ _ q (by rw [hsz]; exact hlt)).trans h1
    have h3 := row_set (k := 3) (.slice (some ⟨w.heap.size, 0, none⟩) 1 1) h2
    rw [h3, hbp]
    simp [rpCells, manyP, hbe]
  refine h.change hr (fun k hk hlt _ => ?_) (by simp [World.setCell]) (begin_st S).2.1 ?_ (fun k hk => ?_) (refOk_begin h.ok)
  · rw [Below.heap_setCell _ ⟨q, 3, none⟩ _ k hk, Below.heap_alloc _ _ k (by rw [hsz]; exact hlt), Below.heap_setCell _ ⟨q, 4, none⟩ _ k hk]
  · have ho := World.ownsRow_lit (base := 0) (e := 3) (size := 1) (w.setCell ⟨q, 4, none⟩ (.int .i64 1)) #[.int .i64 (-1)] 1 (Nat.zero_le _) (by unfold maxLen; omega) rfl
    rw [hsz] at ho
    rw [hbp]
    exact ownsRow_setCell_other ho (a := ⟨q, 3, none⟩) (by simp [Value.ownBlock]; omega) _
  · simp [Value.ownBlock] at hk
    exact .inr (by omega)
theorem RpIn.first_cells {w : World} {q Bo : Nat} {O : Nat → Prop} {S : PS} {hv pv ov : Value} {xs : List (ActD × Value)} (h : RpIn w q Bo O S hv pv ov xs) (u : Value) (o : Obj) :
    ((w.setCell ⟨q, 4, none⟩ u).alloc o).cell? ⟨q, 3, none⟩ = some pv ∧ ((w.setCell ⟨q, 4, none⟩ u).alloc o).frozen? ⟨q, 3, none⟩ = false := by
  have hlt := h.lt
  have hsz : (w.setCell ⟨q, 4, none⟩ u).heap.size = w.heap.size := by simp [World.setCell]
  have h1 := row_set (k := 4) u h.row
  have h2 := (Below.heap_alloc (w.setCell ⟨q, 4, none⟩ u) o q (by rw [hsz]; exact hlt)).trans h1
  exact ⟨(cell_of_row _ q 3 _ _ _ h2).trans rfl, frozen_of_row _ q 3 _ _ h2⟩
theorem first_touch (w : World) (q : Nat) (O : Nat → Prop) (o : Obj) (u v : Value) : Touch (Mine q O) w (((w.setCell ⟨q, 4, none⟩ u).alloc o).setCell ⟨q, 3, none⟩ v) :=
  ((mine_set w q O 4 u).trans (Touch.alloc _ _ _)).trans (mine_set _ q O 3 v)

/-- what a digit does to the last parameter -/
theorem RpIn.digit {w : World} {q Bo : Nat} {O : Nat → Prop} {S : PS} {hv ov : Value} {xs : List (ActD × Value)} {g k cap : Nat} {b : UInt8} (h : RpIn w q Bo O S hv (.slice (some ⟨g, 0, none⟩) (k + 1) cap) ov xs) (hk : S.ps.length = k + 1) (hbe : S.beyond = false) (hb : 48 ≤ b.toNat) :
    RpIn (w.setCell ⟨g, k, none⟩ (.int .i64 (min (max (S.ps.getLastD 0) 0 * 10 + ((b.toNat : Int) - 48)) 65535))) q Bo O (digitP S b) hv (.slice (some ⟨g, 0, none⟩) (k + 1) cap) ov xs := by
  have hne : S.ps ≠ [] := fun e => by rw [e] at hk; cases hk
  have hgq : g ≠ q := fun e => h.nq (h.ownP q (by rw [← e]; rfl))
  have hps := h.ps
  rw [hk] at hps
  have hst := (hps.stored k (.int .i64 (min (max (S.ps.getLastD 0) 0 * 10 + ((b.toNat : Int) - 48)) 65535))).1
  have hd : digitP S b = { S with ps := S.ps.dropLast ++ [min (max (S.ps.getLastD 0) 0 * 10 + ((b.toNat : Int) - 48)) 65535] } := by unfold digitP; rw [if_neg (by rw [hbe]; decide)]
  refine h.change ?_ (fun j hj _ hne => Below.heap_setCell w ⟨g, k, none⟩ _ j fun e => hne (by simp at e; rw [e]; rfl)) (by simp [World.setCell]) (digit_st S b).2.1 ?_ (fun j hj => .inl hj) (refOk_digit h.ok b hb hne)
  · rw [Below.heap_setCell w ⟨g, k, none⟩ _ q (fun e => hgq e.symm), h.row]
    have e : rpCells (digitP S b) hv (.slice (some ⟨g, 0, none⟩) (k + 1) cap) ov = rpCells S hv (.slice (some ⟨g, 0, none⟩) (k + 1) cap) ov := by
      unfold rpCells
      rw [many_digit hne b, hd]
    rw [e]
  · have hlen : (digitP S b).ps.length = k + 1 := (digit_len hne b).1.trans hk
    have hv2 : intVals (digitP S b).ps = (intVals S.ps).set k (.int .i64 (min (max (S.ps.getLastD 0) 0 * 10 + ((b.toNat : Int) - 48)) 65535)) := by
      rw [hd]
      have hds : S.ps = S.ps.dropLast ++ [S.ps.getLastD 0] := by
        rw [List.getLastD_eq_getLast?, List.getLast?_eq_some_getLast hne]
        exact (List.dropLast_concat_getLast hne).symm
      have hl : S.ps.dropLast.length = k := by rw [List.length_dropLast]; omega
      generalize S.ps.getLastD 0 = z at *
      generalize S.ps.dropLast = D at *
      rw [hds]
      simp only [intVals, List.map_append, List.map_cons, List.map_nil]
      rw [List.set_append_right _ _ (by rw [List.length_map]; omega), List.length_map, hl, Nat.sub_self]
      rfl
    rw [hlen, hv2]
    exact hst
set_option maxRecDepth 1000000 in
set_option maxHeartbeats 2000000 in
theorem rdigit_any (w : World) (q Bo : Nat) (O : Nat → Prop) (S : PS) (al : List ActD) (b : UInt8) (h : RpAt w q Bo O S al) (h48 : 48 ≤ b.toNat) (h57 : b.toNat ≤ 57) : Calls Tryd.prog 93 #[.pointer (some ⟨q, 0, none⟩), .int .u8 b.toNat] w (RpPost w q Bo O (digitP (begunP S) b) al) := by
  obtain ⟨hv, pv0, ov, xs, e1, h⟩ := h
  have E1 := Lib.hid e1
  have HB := Lib.hid (And.intro h48 h57)
  clear e1 h48 h57
  by_cases h0 : S.ps.length = 0
  · have hF := h.first h0
    have hT := first_touch w q O (.cells #[.int .i64 (-1)] 3) (.int .i64 1) (.slice (some ⟨w.heap.size, 0, none⟩) 1 1)
    have c4 := h.cells.c4
    have hm0 : manyP S = 0 := by
      unfold manyP
      rw [h0]
      have : ¬ S.beyond = true := fun hb => by have := h.ok.bey hb; omega
      rw [if_neg this]
    rw [hm0] at c4
    have f4 := h.frozen 4
    obtain ⟨c3, f3⟩ := h.first_cells (.int .i64 1) (.cells #[.int .i64 (-1)] 3)
    have eb : beginP S = begunP S := by unfold begunP; rw [if_pos h0]
    rw [eb] at hF
    have hne : (begunP S).ps ≠ [] := (h.ok.ok.begun).2.2
    have HF := Lib.hid hF
    have HT0 := Lib.hid hT
    have HNE := Lib.hid hne
    clear h h0 hF hT hm0 eb hne
    go_enter Tryd.func93, Tryd.ntmps93
    go_upto_region 3 with (fail)
    have h1 := HF.out
    have HT := Lib.hid HT0.out
    have hne := HNE.out
    clear HF HT0 HNE f4 c3 f3
    generalize hW : ((w.setCell ⟨q, 4, none⟩ (.int .i64 1)).alloc (.cells #[.int .i64 (-1)] 3)).setCell ⟨q, 3, none⟩ (.slice (some ⟨w.heap.size, 0, none⟩) 1 1) = W at *
    clear hW
    generalize (Value.slice (some ⟨w.heap.size, 0, none⟩) 1 1) = pv at *
    obtain ⟨k, hk⟩ : ∃ k, (begunP S).ps.length = k + 1 := ⟨(begunP S).ps.length - 1, by have := List.length_pos_iff.2 hne; omega⟩
    have hd16 := h1.ok.ok.ps16
    obtain ⟨A, cap, hpv, _, hsrc⟩ := own_src h1.ps
    have c4 := h1.cells.c4
    have c3 := h1.cells.c3
    rw [hpv] at c3
    rw [hk] at c3 hpv
    by_cases hbe : (begunP S).beyond = true
    · have e : digitP (begunP S) b = begunP S := by unfold digitP; rw [if_pos hbe]
      have hm : manyP (begunP S) = 17 := by unfold manyP; rw [if_pos hbe, h1.ok.bey hbe]
      have HE := Lib.hid e
      rw [hm] at c4
      have H1 := Lib.hid h1
      clear h1 hbe e hm hne hk hd16 hpv hsrc c3
      go_wp2
      go_end0
      exact ⟨rfl, ⟨hv, _, ov, xs, E1.out, by rw [HE.out]; exact H1.out⟩, HT.out⟩
    · have hbe' : (begunP S).beyond = false := by simpa using hbe
      have hm : manyP (begunP S) = k + 1 := by unfold manyP; rw [if_neg hbe, hk]
      rw [hm] at c4
      have hgt : ((16 : Int) < (k : Int) + 1) = False := by simp; omega
      obtain ⟨g, off, hA, hgl, hcell⟩ := hsrc.cells (by omega)
      have hoff : off = 0 := by
        obtain ⟨_, h2⟩ := h1.ps
        rcases h2 with ⟨hx, h0⟩ | ⟨g', cap', cur, hx, _⟩
        · omega
        · rw [hpv, hA] at hx
          injection hx with hx
          injection hx with hx
          injection hx
      subst hoff hA
      have hx : (begunP S).ps[k]? = some ((begunP S).ps.getLastD 0) := by
        have hne2 := hne
        rw [List.getLastD_eq_getLast?, List.getLast?_eq_some_getLast hne2, List.getLast_eq_getElem, List.getElem?_eq_getElem (by omega)]
        simp [hk]
      have hl := hcell k (.int .i64 ((begunP S).ps.getLastD 0)) (by simp [intVals, hx])
      rw [Nat.zero_add] at hl
      have hbd := h1.ok.ok.ints ((begunP S).ps.getLastD 0) (List.mem_of_getElem? hx)
      have hf : W.frozen? ⟨g, k, none⟩ = false := by
        have := h1.ps
        rw [hk, hpv] at this
        exact this.frozenAt k
      have HN := Lib.hid (RpIn.digit (by rw [← hpv]; exact h1) hk hbe' HB.out.1)
      obtain ⟨h48, h57⟩ := HB.out
      have hog : O g := h1.ownP g (by rw [hpv]; rfl)
      have HTT := Lib.hid (Touch.setCell (T := Mine q O) W ⟨g, k, none⟩ (.int .i64 (min (max ((begunP S).ps.getLastD 0) 0 * 10 + ((b.toNat : Int) - 48)) 65535)) (.inr hog))
      have HS := Lib.hid hne
      have i0 : (0 : Int) ≤ (k : Int) := by omega
      have hw : wrap64 (((k + 1 : Nat) : Int) - 1) = (k : Int) := by unfold wrap64; omega
      have wk : wrap64 (k : Int) = (k : Int) := by unfold wrap64; omega
      generalize (begunP S).ps.getLastD 0 = x at *
      have wb : IntKind.u8.wrap ((b.toNat : Int) - 48) = (b.toNat : Int) - 48 := by rw [IntKind.wrap_u8]; omega
      have wb2 : wrap64 ((b.toNat : Int) - 48) = (b.toNat : Int) - 48 := by unfold wrap64; omega
      have wm : wrap64 (max x 0 * 10) = max x 0 * 10 := by unfold wrap64; omega
      have ws : wrap64 (max x 0 * 10 + ((b.toNat : Int) - 48)) = max x 0 * 10 + ((b.toNat : Int) - 48) := by unfold wrap64; omega
      have hkl : k < k + 1 := Nat.lt_succ_self k
      clear h1 hbe hbe' hm hne hk hd16 hpv hsrc hcell hx hbd h48 h57 hog hgl
      go_wp2
      go_region
      all_goals
        go_wp2
        go_end0
        exact ⟨rfl, ⟨hv, _, ov, xs, E1.out, HN.out.drew⟩, (HT.out.trans HTT.out).drew⟩
  · have eb : begunP S = S := by unfold begunP; rw [if_neg h0]
    have h1 := h
    rw [← eb] at h1
    have hz : ((manyP S : Int) == 0) = false := beq_eq_false_iff_ne.2 (by unfold manyP; omega)
    have c40 := h.cells.c4
    have hne : (begunP S).ps ≠ [] := (h.ok.ok.begun).2.2
    have HT := Lib.hid (Touch.refl (Mine q O) w)
    have HF := Lib.hid h1
    have HNE := Lib.hid hne
    clear h h1 h0 eb hne
    generalize manyP S = m0 at *
    go_enter Tryd.func93, Tryd.ntmps93
    go_upto_region 3 with (fail)
    have h1 := HF.out
    have hne := HNE.out
    clear HF HNE c40 hz
    obtain ⟨k, hk⟩ : ∃ k, (begunP S).ps.length = k + 1 := ⟨(begunP S).ps.length - 1, by have := List.length_pos_iff.2 hne; omega⟩
    have hd16 := h1.ok.ok.ps16
    obtain ⟨A, cap, hpv, _, hsrc⟩ := own_src h1.ps
    have c4 := h1.cells.c4
    have c3 := h1.cells.c3
    rw [hpv] at c3
    rw [hk] at c3 hpv
    by_cases hbe : (begunP S).beyond = true
    · have e : digitP (begunP S) b = begunP S := by unfold digitP; rw [if_pos hbe]
      have hm : manyP (begunP S) = 17 := by unfold manyP; rw [if_pos hbe, h1.ok.bey hbe]
      have HE := Lib.hid e
      rw [hm] at c4
      have H1 := Lib.hid h1
      clear h1 hbe e hm hne hk hd16 hpv hsrc c3
      go_wp2
      go_end0
      exact ⟨rfl, ⟨hv, _, ov, xs, E1.out, by rw [HE.out]; exact H1.out⟩, HT.out⟩
    · have hbe' : (begunP S).beyond = false := by simpa using hbe
      have hm : manyP (begunP S) = k + 1 := by unfold manyP; rw [if_neg hbe, hk]
      rw [hm] at c4
      have hgt : ((16 : Int) < (k : Int) + 1) = False := by simp; omega
      obtain ⟨g, off, hA, hgl, hcell⟩ := hsrc.cells (by omega)
      have hoff : off = 0 := by
        obtain ⟨_, h2⟩ := h1.ps
        rcases h2 with ⟨hx, h0⟩ | ⟨g', cap', cur, hx, _⟩
        · omega
        · rw [hpv, hA] at hx
          injection hx with hx
          injection hx with hx
          injection hx
      subst hoff hA
      have hx : (begunP S).ps[k]? = some ((begunP S).ps.getLastD 0) := by
        have hne2 := hne
        rw [List.getLastD_eq_getLast?, List.getLast?_eq_some_getLast hne2, List.getLast_eq_getElem, List.getElem?_eq_getElem (by omega)]
        simp [hk]
      have hl := hcell k (.int .i64 ((begunP S).ps.getLastD 0)) (by simp [intVals, hx])
      rw [Nat.zero_add] at hl
      have hbd := h1.ok.ok.ints ((begunP S).ps.getLastD 0) (List.mem_of_getElem? hx)
      have hf : w.frozen? ⟨g, k, none⟩ = false := by
        have := h1.ps
        rw [hk, hpv] at this
        exact this.frozenAt k
      have HN := Lib.hid (RpIn.digit (by rw [← hpv]; exact h1) hk hbe' HB.out.1)
      obtain ⟨h48, h57⟩ := HB.out
      have hog : O g := h1.ownP g (by rw [hpv]; rfl)
      have HTT := Lib.hid (Touch.setCell (T := Mine q O) w ⟨g, k, none⟩ (.int .i64 (min (max ((begunP S).ps.getLastD 0) 0 * 10 + ((b.toNat : Int) - 48)) 65535)) (.inr hog))
      have HS := Lib.hid hne
      have i0 : (0 : Int) ≤ (k : Int) := by omega
      have hw : wrap64 (((k + 1 : Nat) : Int) - 1) = (k : Int) := by unfold wrap64; omega
      have wk : wrap64 (k : Int) = (k : Int) := by unfold wrap64; omega
      generalize (begunP S).ps.getLastD 0 = x at *
      have wb : IntKind.u8.wrap ((b.toNat : Int) - 48) = (b.toNat : Int) - 48 := by rw [IntKind.wrap_u8]; omega
      have wb2 : wrap64 ((b.toNat : Int) - 48) = (b.toNat : Int) - 48 := by unfold wrap64; omega
      have wm : wrap64 (max x 0 * 10) = max x 0 * 10 := by unfold wrap64; omega
      have ws : wrap64 (max x 0 * 10 + ((b.toNat : Int) - 48)) = max x 0 * 10 + ((b.toNat : Int) - 48) := by unfold wrap64; omega
      have hkl : k < k + 1 := Nat.lt_succ_self k
      clear h1 hbe hbe' hm hne hk hd16 hpv hsrc hcell hx hbd h48 h57 hog hgl
      go_wp2
      go_region
      all_goals
        go_wp2
        go_end0
        exact ⟨rfl, ⟨hv, _, ov, xs, E1.out, HN.out.drew⟩, (HT.out.trans HTT.out).drew⟩
end

section
open Go.RowKit Go.Shelf Go.Lib
attribute [local go_sem] Oper.semAt_some

/-- a parameter more -/
theorem RpIn.next {w w5 : World} {q Bo : Nat} {O : Nat → Prop} {S : PS} {hv pv ov pv' : Value} {xs : List (ActD × Value)} {u : Value} {o : Obj} (h : RpIn w q Bo O S hv pv ov xs) (hn : S.ps.length < 16) (hbe : S.beyond = false) (hu : u = .int .i64 ((S.ps.length : Int) + 1))
    (hg : ((w.setCell ⟨q, 4, none⟩ u).alloc o).grownBy w5 pv.ownBlock) (ho : w5.ownsRow 0 3 1 pv' (S.ps.length + 1) (intVals S.ps ++ [.int .i64 (-1)])) (hp : pv'.ownBlock = pv.ownBlock ∨ pv'.ownBlock = some ((w.setCell ⟨q, 4, none⟩ u).alloc o).heap.size) :
    RpIn (w5.setCell ⟨q, 3, none⟩ pv') q Bo O (beginP S) hv pv' ov xs ∧ Touch (Mine q O) w (w5.setCell ⟨q, 3, none⟩ pv') := by
  subst hu
  have hlt := h.lt
  have hsz : (w.setCell ⟨q, 4, none⟩ (.int .i64 ((S.ps.length : Int) + 1))).heap.size = w.heap.size := by simp [World.setCell]
  have hsz2 : ((w.setCell ⟨q, 4, none⟩ (.int .i64 ((S.ps.length : Int) + 1))).alloc o).heap.size = w.heap.size + 1 := by simp [World.setCell]
  have hbp : beginP S = { S with ps := S.ps ++ [-1] } := by unfold beginP; rw [if_neg (by omega)]
  have hm : manyP (beginP S) = S.ps.length + 1 := by unfold manyP; rw [hbp]; simp [hbe]
  have h1 := row_set (k := 4) (.int .i64 ((S.ps.length : Int) + 1)) h.row
  have h2 := (Below.heap_alloc (w.setCell ⟨q, 4, none⟩ (.int .i64 ((S.ps.length : Int) + 1))) o q (by rw [hsz]; exact hlt)).trans h1
  have hq : some q ≠ pv.ownBlock := fun e => h.nq (h.ownP q e.symm)
  have h3 := (hg.block q (by rw [hsz2]; omega) hq).trans h2
  have h4 := row_set (k := 3) pv' h3
  have hpq : ∀ k, pv'.ownBlock = some k → k ≠ q := by
    rintro k hk rfl
    rcases hp with e | e
    · exact hq (hk.symm.trans e)
    · rw [hk, hsz2] at e; injection e with e; omega
  have hz : w.heap.size ≤ w5.heap.size := by have := hg.size; rw [hsz2] at this; omega
  have hr : (w5.setCell ⟨q, 3, none⟩ pv').heap[q]? = some (.cells (rpCells (beginP S) hv pv' ov).toArray 69 (0, 0)) := by
    rw [h4]
    have e : rpCells (beginP S) hv pv' ov = ((rpCells S hv pv ov).set 4 (.int .i64 ((S.ps.length : Int) + 1))).set 3 pv' := by
      unfold rpCells
      rw [hm, hbp]
      simp
    rw [e]
  refine ⟨h.change hr (fun k hk hl hne => ?_) (by simp [World.setCell]; exact hz) (begin_st S).2.1 ?_ (fun k hk => ?_) (refOk_begin h.ok), ?_⟩
  · rw [Below.heap_setCell _ ⟨q, 3, none⟩ _ k hk, hg.block k (by rw [hsz2]; omega) (fun e => hne e.symm), Below.heap_alloc _ _ k (by rw [hsz]; exact hl), Below.heap_setCell _ ⟨q, 4, none⟩ _ k hk]
  · have e1 : (beginP S).ps.length = S.ps.length + 1 := by rw [hbp]; simp
    have e2 : intVals (beginP S).ps = intVals S.ps ++ [.int .i64 (-1)] := by rw [hbp]; simp [intVals]
    rw [e1, e2]
    refine own_same ho fun k hk => Below.heap_setCell _ ⟨q, 3, none⟩ _ k (hpq k hk)
  · rcases hp with e | e
    · exact .inl (e.symm.trans hk)
    · rw [hk, hsz2] at e; injection e with e; exact .inr (by omega)
  · exact (((mine_set w q O 4 _).trans (Touch.alloc _ _ o)).trans (grown_mine hg h.ownP)).trans (mine_set _ q O 3 pv')

set_option maxRecDepth 1000000 in
set_option maxHeartbeats 2000000 in
theorem rnext_any (w : World) (q Bo : Nat) (O : Nat → Prop) (S : PS) (al : List ActD) (h : RpAt w q Bo O S al) : Calls Tryd.prog 92 #[.pointer (some ⟨q, 0, none⟩)] w (RpPost w q Bo O (beginP (begunP S)) al) := by
  obtain ⟨hv, pv0, ov, xs, e1, h⟩ := h
  have E1 := Lib.hid e1
  clear e1
  by_cases h0 : S.ps.length = 0
  · have hF := h.first h0
    have hT := first_touch w q O (.cells #[.int .i64 (-1)] 3) (.int .i64 1) (.slice (some ⟨w.heap.size, 0, none⟩) 1 1)
    have c4 := h.cells.c4
    have hm0 : manyP S = 0 := by
      unfold manyP
      rw [h0]
      have : ¬ S.beyond = true := fun hb => by have := h.ok.bey hb; omega
      rw [if_neg this]
    rw [hm0] at c4
    have f4 := h.frozen 4
    obtain ⟨c3, f3⟩ := h.first_cells (.int .i64 1) (.cells #[.int .i64 (-1)] 3)
    have eb : beginP S = begunP S := by unfold begunP; rw [if_pos h0]
    rw [eb] at hF
    have HF := Lib.hid hF
    have HT0 := Lib.hid hT
    clear h h0 hF hT hm0 eb
    go_enter Tryd.func92, Tryd.ntmps92
    go_upto_region 3 with (fail)
    have h1 := HF.out
    have HT := Lib.hid HT0.out
    clear HF HT0 f4 c3 f3
    generalize hW : ((w.setCell ⟨q, 4, none⟩ (.int .i64 1)).alloc (.cells #[.int .i64 (-1)] 3)).setCell ⟨q, 3, none⟩ (.slice (some ⟨w.heap.size, 0, none⟩) 1 1) = W at *
    clear hW
    generalize (Value.slice (some ⟨w.heap.size, 0, none⟩) 1 1) = pv at *
    have hd16 := h1.ok.ok.ps16
    have c4 := h1.cells.c4
    have f4 := h1.frozen 4
    by_cases hbe : (begunP S).beyond = true
    · have e : beginP (begunP S) = begunP S := by
        have := h1.ok.bey hbe
        unfold beginP
        rw [if_pos this]
        generalize begunP S = S1 at *
        obtain ⟨a1, a2, a3, a4, a5, a6, a7, a8⟩ := S1
        simp only at hbe
        subst hbe
        rfl
      have hm : manyP (begunP S) = 17 := by unfold manyP; rw [if_pos hbe, h1.ok.bey hbe]
      have HE := Lib.hid e
      rw [hm] at c4
      have H1 := Lib.hid h1
      clear h1 hbe e hm hd16
      go_wp2
      go_end0
      exact ⟨rfl, ⟨hv, _, ov, xs, E1.out, by rw [HE.out]; exact H1.out⟩, HT.out⟩
    · have hbe' : (begunP S).beyond = false := by simpa using hbe
      have hm : manyP (begunP S) = (begunP S).ps.length := by unfold manyP; rw [if_neg hbe, Nat.add_zero]
      rw [hm] at c4
      by_cases h16 : (begunP S).ps.length = 16
      · rw [h16] at c4
        have e : beginP (begunP S) = { begunP S with beyond := true } := by unfold beginP; rw [if_pos h16]
        have HE := Lib.hid e
        have HN := Lib.hid (h1.store (k := 4) (v := .int .i64 17) (S' := { begunP S with beyond := true }) (by unfold rpCells manyP; simp [h16]) rfl rfl ⟨⟨h1.ok.ok.ps16, h1.ok.ok.ints, h1.ok.ok.inter2, h1.ok.ok.text⟩, fun _ => h16⟩)
        have hw : wrap64 ((16 : Int) + 1) = 17 := by unfold wrap64; omega
        clear h1 hbe hbe' hm e hd16 h16
        go_wp2
        go_end0
        exact ⟨rfl, ⟨hv, _, ov, xs, E1.out, by rw [HE.out]; exact HN.out⟩, HT.out.trans (mine_set _ q O 4 _)⟩
      · obtain ⟨i, hi, hz0, hs2, hby⟩ := info_parts info_i64
        obtain ⟨A, cap, hpv, _, hsrc⟩ := own_src h1.ps
        have hlt : (begunP S).ps.length < 16 := by omega
        have c3 : ((W.setCell ⟨q, 4, none⟩ (.int .i64 (((begunP S).ps.length : Int) + 1)))).cell? ⟨q, 3, none⟩ = some pv := (cell_of_row _ q 3 _ _ _ (row_set (k := 4) _ h1.row)).trans rfl
        have HO := Lib.hid (own_below (ownsRow_setCell_other h1.ps (a := ⟨q, 4, none⟩) (fun e => h1.nq (h1.ownP q e)) (.int .i64 (((begunP S).ps.length : Int) + 1))) ((Below.refl _ _).alloc (Nat.le_refl _) (.cells #[.int .i64 (-1)] 3)))
        have HSZ : Hid ((W.setCell ⟨q, 4, none⟩ (.int .i64 (((begunP S).ps.length : Int) + 1))).heap.size = W.heap.size) := Lib.hid (by simp [World.setCell])
        have HX : Hid (((W.setCell ⟨q, 4, none⟩ (.int .i64 (((begunP S).ps.length : Int) + 1))).alloc (.cells #[.int .i64 (-1)] 3)).heap[W.heap.size]? = some (.cells #[.int .i64 (-1)] 3)) := Lib.hid (by have := heap_alloc_new (W.setCell ⟨q, 4, none⟩ (.int .i64 (((begunP S).ps.length : Int) + 1))) (.cells #[.int .i64 (-1)] 3); rwa [HSZ.out] at this)
        have HL := Lib.hid hlt
        have HBE := Lib.hid hbe'
        have H1 := Lib.hid h1
        have hw : wrap64 (((begunP S).ps.length : Int) + 1) = ((begunP S).ps.length : Int) + 1 := by unfold wrap64; omega
        have g1 : (((begunP S).ps.length : Int) ≤ 16) = True := by simp; omega
        have g2 : (((begunP S).ps.length : Int) + 1 ≤ 16) = True := by simp; omega
        have HQ : Hid (some q ≠ pv.ownBlock) := Lib.hid fun e => h1.nq (h1.ownP q e.symm)
        have hrw := (Below.heap_alloc (W.setCell ⟨q, 4, none⟩ (.int .i64 (((begunP S).ps.length : Int) + 1))) (.cells #[.int .i64 (-1)] 3) q (by rw [HSZ.out]; exact h1.lt)).trans (row_set (k := 4) _ h1.row)
        have HRW := Lib.hid hrw
        have HQL : Hid (q < ((W.setCell ⟨q, 4, none⟩ (.int .i64 (((begunP S).ps.length : Int) + 1))).alloc (.cells #[.int .i64 (-1)] 3)).heap.size) := Lib.hid (Array.getElem?_eq_some_iff.1 hrw).1
        clear h1 hbe hbe' hm hd16 h16 hlt hsrc hrw
        generalize hnn : (begunP S).ps.length = n at *
        have HNE := Lib.hid hnn
        clear hnn
        subst hpv
        go_wp2_with (at_builtin; refine wpList_append_src 37 3 i _ 1 8 Tryd.underlying37 hi hz0 hs2 hby rfl (by decide) (by rfl) _ _ (by rfl) 0 (.slice A n cap) n _ (by rfl) HO.out (by rfl) (src_block (xs := [.int .i64 (-1)]) HX.out (by rfl) (by rfl)) (fun u hu => by simp at hu; subst hu; rfl) (by have := HL.out; unfold maxLen; omega) (by have := HL.out; omega) (Nat.zero_le _) ?_; intro v' w' hr' hg' hv2; obtain ⟨A', c', hv', _⟩ := own_form hr'; subst hv'; have hq5 := (hg'.block q HQL.out HQ.out).trans HRW.out; have kc : w'.cell? ⟨q, 3, none⟩ = some (.slice A n cap) := (cell_of_row _ q 3 _ _ _ hq5).trans rfl; have kf := frozen_of_row w' q 3 _ _ hq5; have HR := Lib.hid hr'; have HG := Lib.hid hg'; have HV2 := Lib.hid hv2; clear hr' hg' hv2 hq5)
        go_end0
        have hN := H1.out.next (by rw [HNE.out]; exact HL.out) HBE.out (by rw [HNE.out]) HG.out (by rw [HNE.out]; exact HR.out) HV2.out
        exact ⟨rfl, ⟨hv, _, ov, xs, E1.out, hN.1⟩, HT.out.trans hN.2⟩
  · have eb : begunP S = S := by unfold begunP; rw [if_neg h0]
    have h1 := h
    rw [← eb] at h1
    have hz : ((manyP S : Int) == 0) = false := beq_eq_false_iff_ne.2 (by unfold manyP; omega)
    have c40 := h.cells.c4
    have HT := Lib.hid (Touch.refl (Mine q O) w)
    have HF := Lib.hid h1
    clear h h1 h0 eb
    generalize manyP S = m0 at *
    go_enter Tryd.func92, Tryd.ntmps92
    go_upto_region 3 with (fail)
    have h1 := HF.out
    clear HF c40 hz
    have hd16 := h1.ok.ok.ps16
    have c4 := h1.cells.c4
    have f4 := h1.frozen 4
    by_cases hbe : (begunP S).beyond = true
    · have e : beginP (begunP S) = begunP S := by
        have := h1.ok.bey hbe
        unfold beginP
        rw [if_pos this]
        generalize begunP S = S1 at *
        obtain ⟨a1, a2, a3, a4, a5, a6, a7, a8⟩ := S1
        simp only at hbe
        subst hbe
        rfl
      have hm : manyP (begunP S) = 17 := by unfold manyP; rw [if_pos hbe, h1.ok.bey hbe]
      have HE := Lib.hid e
      rw [hm] at c4
      have H1 := Lib.hid h1
      clear h1 hbe e hm hd16
      go_wp2
      go_end0
      exact ⟨rfl, ⟨hv, _, ov, xs, E1.out, by rw [HE.out]; exact H1.out⟩, HT.out⟩
    · have hbe' : (begunP S).beyond = false := by simpa using hbe
      have hm : manyP (begunP S) = (begunP S).ps.length := by unfold manyP; rw [if_neg hbe, Nat.add_zero]
      rw [hm] at c4
      by_cases h16 : (begunP S).ps.length = 16
      · rw [h16] at c4
        have e : beginP (begunP S) = { begunP S with beyond := true } := by unfold beginP; rw [if_pos h16]
        have HE := Lib.hid e
        have HN := Lib.hid (h1.store (k := 4) (v := .int .i64 17) (S' := { begunP S with beyond := true }) (by unfold rpCells manyP; simp [h16]) rfl rfl ⟨⟨h1.ok.ok.ps16, h1.ok.ok.ints, h1.ok.ok.inter2, h1.ok.ok.text⟩, fun _ => h16⟩)
        have hw : wrap64 ((16 : Int) + 1) = 17 := by unfold wrap64; omega
        clear h1 hbe hbe' hm e hd16 h16
        go_wp2
        go_end0
        exact ⟨rfl, ⟨hv, _, ov, xs, E1.out, by rw [HE.out]; exact HN.out⟩, HT.out.trans (mine_set _ q O 4 _)⟩
      · obtain ⟨i, hi, hz0, hs2, hby⟩ := info_parts info_i64
        obtain ⟨A, cap, hpv, _, hsrc⟩ := own_src h1.ps
        have hlt : (begunP S).ps.length < 16 := by omega
        have c3 : ((w.setCell ⟨q, 4, none⟩ (.int .i64 (((begunP S).ps.length : Int) + 1)))).cell? ⟨q, 3, none⟩ = some pv0 := (cell_of_row _ q 3 _ _ _ (row_set (k := 4) _ h1.row)).trans rfl
        have HO := Lib.hid (own_below (ownsRow_setCell_other h1.ps (a := ⟨q, 4, none⟩) (fun e => h1.nq (h1.ownP q e)) (.int .i64 (((begunP S).ps.length : Int) + 1))) ((Below.refl _ _).alloc (Nat.le_refl _) (.cells #[.int .i64 (-1)] 3)))
        have HSZ : Hid ((w.setCell ⟨q, 4, none⟩ (.int .i64 (((begunP S).ps.length : Int) + 1))).heap.size = w.heap.size) := Lib.hid (by simp [World.setCell])
        have HX : Hid (((w.setCell ⟨q, 4, none⟩ (.int .i64 (((begunP S).ps.length : Int) + 1))).alloc (.cells #[.int .i64 (-1)] 3)).heap[w.heap.size]? = some (.cells #[.int .i64 (-1)] 3)) := Lib.hid (by have := heap_alloc_new (w.setCell ⟨q, 4, none⟩ (.int .i64 (((begunP S).ps.length : Int) + 1))) (.cells #[.int .i64 (-1)] 3); rwa [HSZ.out] at this)
        have HL := Lib.hid hlt
        have HBE := Lib.hid hbe'
        have H1 := Lib.hid h1
        have hw : wrap64 (((begunP S).ps.length : Int) + 1) = ((begunP S).ps.length : Int) + 1 := by unfold wrap64; omega
        have g1 : (((begunP S).ps.length : Int) ≤ 16) = True := by simp; omega
        have g2 : (((begunP S).ps.length : Int) + 1 ≤ 16) = True := by simp; omega
        have HQ : Hid (some q ≠ pv0.ownBlock) := Lib.hid fun e => h1.nq (h1.ownP q e.symm)
        have hrw := (Below.heap_alloc (w.setCell ⟨q, 4, none⟩ (.int .i64 (((begunP S).ps.length : Int) + 1))) (.cells #[.int .i64 (-1)] 3) q (by rw [HSZ.out]; exact h1.lt)).trans (row_set (k := 4) _ h1.row)
        have HRW := Lib.hid hrw
        have HQL : Hid (q < ((w.setCell ⟨q, 4, none⟩ (.int .i64 (((begunP S).ps.length : Int) + 1))).alloc (.cells #[.int .i64 (-1)] 3)).heap.size) := Lib.hid (Array.getElem?_eq_some_iff.1 hrw).1
        clear h1 hbe hbe' hm hd16 h16 hlt hsrc hrw
        generalize hnn : (begunP S).ps.length = n at *
        have HNE := Lib.hid hnn
        clear hnn
        subst hpv
        go_wp2_with (at_builtin; refine wpList_append_src 37 3 i _ 1 8 Tryd.underlying37 hi hz0 hs2 hby rfl (by decide) (by rfl) _ _ (by rfl) 0 (.slice A n cap) n _ (by rfl) HO.out (by rfl) (src_block (xs := [.int .i64 (-1)]) HX.out (by rfl) (by rfl)) (fun u hu => by simp at hu; subst hu; rfl) (by have := HL.out; unfold maxLen; omega) (by have := HL.out; omega) (Nat.zero_le _) ?_; intro v' w' hr' hg' hv2; obtain ⟨A', c', hv', _⟩ := own_form hr'; subst hv'; have hq5 := (hg'.block q HQL.out HQ.out).trans HRW.out; have kc : w'.cell? ⟨q, 3, none⟩ = some (.slice A n cap) := (cell_of_row _ q 3 _ _ _ hq5).trans rfl; have kf := frozen_of_row w' q 3 _ _ hq5; have HR := Lib.hid hr'; have HG := Lib.hid hg'; have HV2 := Lib.hid hv2; clear hr' hg' hv2 hq5)
        go_end0
        have hN := H1.out.next (by rw [HNE.out]; exact HL.out) HBE.out (by rw [HNE.out]) HG.out (by rw [HNE.out]; exact HR.out) HV2.out
        exact ⟨rfl, ⟨hv, _, ov, xs, E1.out, hN.1⟩, HT.out.trans hN.2⟩
end
end Go.Proofs.YtjoiagaadofndaaDoor
