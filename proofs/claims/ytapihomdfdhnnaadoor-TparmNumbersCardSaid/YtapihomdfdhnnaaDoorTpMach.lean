/-
  The evaluator of package tparm in memory: its block, its rows, the variables' map. No program is walked here, and nothing is assumed.
-/
import Derived.Test.YtapihomdfdhnnaaDoorTpParse2
import Derived.Test.YtapihomdfdhnnaaDoorTpQ
import Derived.Lib.AppendStr
import Derived.Maps.OwnSet
import Derived.Maps.OwnOps
namespace Go.Proofs.YtapihomdfdhnnaaDoor
open Go.RowKit Go.Shelf Go.Lib Go.Maps

/-! ### rows of values and of bytes -/
def prmCells (p : PrmD) : List Value := [.int .i32 p.num, str p.text, .bool p.is]
abbrev prmVal (p : PrmD) : Value := .agg #[.int .i32 p.num, str p.text, .bool p.is]
def prmVals (l : List PrmD) : List Value := l.flatMap prmCells
theorem prmVals_length (l : List PrmD) : (prmVals l).length = l.length * 3 := by
  induction l with
  | nil => rfl
  | cons x l ih => simp [prmVals, prmCells] at ih ⊢; omega
theorem prmVals_append (a b : List PrmD) : prmVals (a ++ b) = prmVals a ++ prmVals b := List.flatMap_append
theorem prmCells_one (i : PrmD) : ∀ u ∈ prmCells i, u.oneCell' = true := by
  intro u hu
  simp [prmCells] at hu
  rcases hu with rfl | rfl | rfl <;> rfl
theorem prmVals_at {l : List PrmD} {i : Nat} {c : PrmD} (h : l[i]? = some c) (j : Nat) (hj : j < 3) : (prmVals l)[i * 3 + j]? = (prmCells c)[j]? := by
  induction l generalizing i with
  | nil => simp at h
  | cons x l ih =>
    cases i with
    | zero =>
      simp at h
      subst h
      show (prmCells x ++ prmVals l)[0 * 3 + j]? = _
      rw [List.getElem?_append_left (by simp [prmCells]; omega)]
      simp
    | succ i =>
      show (prmCells x ++ prmVals l)[(i + 1) * 3 + j]? = _
      rw [List.getElem?_append_right (by simp [prmCells]; omega)]
      have := ih (by simpa using h)
      rw [← this]
      congr 1
      simp [prmCells]
      omega
theorem prmVals_take (l : List PrmD) (i : Nat) : (prmVals l).take (i * 3) = prmVals (l.take i) := by
  induction l generalizing i with
  | nil => simp [prmVals]
  | cons x l ih =>
    cases i with
    | zero => simp [prmVals]
    | succ i =>
      show (prmCells x ++ prmVals l).take ((i + 1) * 3) = prmCells x ++ prmVals (l.take i)
      rw [← ih i, List.take_append, List.take_of_length_le (by simp [prmCells]; omega)]
      congr 2
      simp [prmCells]
      omega
def PrmRow (W : World) (B : Nat) (v : Value) (l : List PrmD) : Prop := W.ownsRow B 32 3 v l.length (prmVals l)
def ByteRow (W : World) (B : Nat) (v : Value) (s : List UInt8) : Prop := W.ownsRow B 5 1 v s.length (byteVals s)
theorem info_prm : (Tryd.prog.info? 32).map (fun i => (i.zero, i.size, i.bytes)) = some (some (.agg #[.int .i32 0, .string ⟨#[]⟩, .bool false]), 3, 32) := by kernel_rfl
theorem info_u8 : (Tryd.prog.info? 5).map (fun i => (i.zero, i.size, i.bytes)) = some (some (.int .u8 0), 1, 1) := by kernel_rfl
theorem byteVals_append (a b : List UInt8) : byteVals (a ++ b) = byteVals a ++ byteVals b := by simp [byteVals]
theorem run_append_text (w : World) (B : Nat) (ty : TypeId) (v : Value) (s : List UInt8) (hrow : ByteRow w B v s) (x : List UInt8) (hl : s.length + x.length ≤ 4000000) (hB : B ≤ w.heap.size) :
    ∃ v' w', (Builtin.append_ #[51, 9] ty #[v, str x]).run Tryd.prog w = .ok v' w' ∧ ByteRow w' B v' (s ++ x) ∧ w.grownBy w' v.ownBlock := by
  obtain ⟨i, hi, hz, hs2, hby⟩ := info_parts info_u8
  obtain ⟨v', w', hr, h4, h5, _⟩ := run_append_own_string (P := Tryd.prog) (w := w) B 51 9 ty 5 i Tryd.underlying51 Tryd.underlying9 hi hz hs2 hby v s.length (byteVals s) hrow ⟨x.toArray⟩ (by show s.length + x.toArray.size ≤ _; unfold maxLen; simp; omega) (by show s.length + x.toArray.size ≤ _; simp; omega) hB
  refine ⟨v', w', hr, ?_, h5⟩
  unfold ByteRow
  rw [List.length_append, byteVals_append]
  have e : strCells (⟨x.toArray⟩ : ByteArray) = byteVals x := by unfold strCells byteVals; simp
  rw [e] at h4
  exact h4
theorem wpList_append_text {ops : Array Oper} {rest : List Oper} {o : Oper} {a : Act} {w : World} {Q : Exit → Act → World → Prop} (hgd : o.guard = none) (s x : Operand)
    (ho : o.op = .call { callee := .builtin .append, args := #[s, x], argTypes := #[51, 9] }) (B : Nat) (v : Value) (l : List UInt8) (hs : a.eval s = v) (hrow : ByteRow w B v l) (y : List UInt8) (hx : a.eval x = str y) (hl : l.length + y.length ≤ 4000000) (hB : B ≤ w.heap.size)
    (h : ∀ v' w', ByteRow w' B v' (l ++ y) → w.grownBy w' v.ownBlock → wpList Tryd.prog ops Q rest (a.put o.dst v') w') : wpList Tryd.prog ops Q (o :: rest) a w := by
  refine wpList_plain hgd fun K hK => ?_
  obtain ⟨v', w', hrun, r1, r2⟩ := run_append_text w B o.type v l hrow y hl hB
  unfold Oper.wp
  simp [execOp, ho, resolve, invoke, builtin, hs, hx, hrun, Result.andThen]
  exact hK _ _ (h v' w' r1 r2)
theorem run_append_prm (w : World) (B : Nat) (ty : TypeId) (v : Value) (l : List PrmD) (hrow : PrmRow w B v l) (c : PrmD) {g cp : Nat} {cs : Array Value} {t2 : TypeId} {fr : Nat × Nat} (h : w.heap[g]? = some (.cells cs t2 fr)) (hcs : cs.toList = prmCells c) (hl : l.length ≤ 100000) (hB : B ≤ w.heap.size) :
    ∃ v' w', (Builtin.append_ #[44, 44] ty #[v, .slice (some ⟨g, 0, none⟩) 1 cp]).run Tryd.prog w = .ok v' w' ∧ PrmRow w' B v' (l ++ [c]) ∧ w.grownBy w' v.ownBlock ∧ (v'.ownBlock = v.ownBlock ∨ v'.ownBlock = some w.heap.size) := by
  obtain ⟨i, hi, hz, hs2, hby⟩ := info_parts info_prm
  have hsrc : Src w 3 (some ⟨g, 0, none⟩) cp 1 (prmCells c) := ⟨rfl, (fun e => by cases e), fun _ => ⟨g, 0, rfl, (Array.getElem?_eq_some_iff.1 h).1, fun j u hu => by
    rw [Nat.zero_add, cell_of_row w g j _ _ _ h, ← Array.getElem?_toList, hcs]
    exact hu⟩⟩
  obtain ⟨v', w', hr, h4, h5, h6⟩ := run_append_src (P := Tryd.prog) w B 44 ty 32 i _ 3 32 Tryd.underlying44 hi hz hs2 hby rfl (by decide) v l.length (prmVals l) hrow hsrc (prmCells_one c) (by unfold maxLen; omega) (by omega) hB
  refine ⟨v', w', hr, ?_, h5, h6⟩
  unfold PrmRow
  rw [List.length_append, prmVals_append]
  have e : prmVals [c] = prmCells c := by simp [prmVals]
  rw [e]
  exact h4
theorem step_append_prm {ops : Array Oper} {o : Oper} {a : Act} {w : World} {K : Act → World → Prop} {Q : Exit → Act → World → Prop} {E : Prop} (hgd : o.guard = none) (s x : Operand)
    (ho : o.op = .call { callee := .builtin .append, args := #[s, x], argTypes := #[44, 44] }) (B : Nat) (v : Value) (l : List PrmD) (hs : a.eval s = v) (hrow : PrmRow w B v l) (c : PrmD) {g cp : Nat} {cs : Array Value} {t2 : TypeId} {fr : Nat × Nat} (hx : a.eval x = .slice (some ⟨g, 0, none⟩) 1 cp)
    (hh : w.heap[g]? = some (.cells cs t2 fr)) (hcs : cs.toList = prmCells c) (hl : l.length ≤ 100000) (hB : B ≤ w.heap.size)
    (h : ∀ v' w', PrmRow w' B v' (l ++ [c]) → w.grownBy w' v.ownBlock → (v'.ownBlock = v.ownBlock ∨ v'.ownBlock = some w.heap.size) → K (a.put o.dst v') w') :
    if Region.wanted o (yielded ops a.tmps) = true then Oper.wp Tryd.prog o a w K Q else E := by
  have hw : Region.wanted o (yielded ops a.tmps) = true := by simp [Region.wanted, hgd]
  rw [if_pos hw]
  obtain ⟨v', w', hrun, r1, r2, r3⟩ := run_append_prm w B o.type v l hrow c (cp := cp) hh hcs hl hB
  unfold Oper.wp
  simp [execOp, ho, resolve, invoke, builtin, hs, hx, hrun, Result.andThen]
  exact h v' w' r1 r2 r3
theorem own_type {W : World} {B size n : Nat} {e : TypeId} {v : Value} {xs : List Value} (h : W.ownsRow B e size v n xs) {k : Nat} (hk : v.ownBlock = some k) : ∃ cur, W.heap[k]? = some (.cells cur e (0, 0)) := by
  rcases h.2 with ⟨rfl, _⟩ | ⟨g, cap, cur, rfl, _, hh, _⟩
  · cases hk
  · simp [Value.ownBlock] at hk
    subst hk
    exact ⟨cur, hh⟩
/-- a shorter part of a row -/
theorem own_cut {W : World} {B size n cap i : Nat} {e : TypeId} {A : Option Addr} {xs : List Value} (h : W.ownsRow B e size (.slice A n cap) n xs) (hi : i ≤ n) : W.ownsRow B e size (.slice A i cap) i (xs.take (i * size)) := by
  obtain ⟨h1, h2⟩ := h
  have hmul : i * size ≤ n * size := Nat.mul_le_mul_right _ hi
  refine ⟨by rw [List.length_take]; omega, ?_⟩
  rcases h2 with ⟨e1, h0⟩ | ⟨g, cap', cur, e1, hg, hh, hn, hm, hs, ht⟩
  · injection e1 with e1 e2 e3
    subst e1 e3
    obtain rfl : i = 0 := by omega
    exact .inl ⟨rfl, rfl⟩
  · injection e1 with e1 e2 e3
    subst e1 e3
    refine .inr ⟨g, cap, cur, rfl, hg, hh, by omega, hm, hs, ?_⟩
    rw [← ht, List.take_take, Nat.min_eq_left hmul]
theorem PrmRow.form {W : World} {B : Nat} {v : Value} {l : List PrmD} (h : PrmRow W B v l) : ∃ A cap, v = .slice A l.length cap := by
  obtain ⟨A, c, e, _⟩ := own_form h
  exact ⟨A, c, e⟩
theorem ByteRow.form {W : World} {B : Nat} {v : Value} {s : List UInt8} (h : ByteRow W B v s) : ∃ A cap, v = .slice A s.length cap := by
  obtain ⟨A, c, e, _⟩ := own_form h
  exact ⟨A, c, e⟩
theorem PrmRow.cells {W : World} {B n cap : Nat} {A : Option Addr} {l : List PrmD} (h : PrmRow W B (.slice A n cap) l) {i : Nat} {p : PrmD} (hi : l[i]? = some p) : ∃ g, A = some ⟨g, 0, none⟩ ∧ n ≤ cap ∧ g < W.heap.size ∧ W.cell? ⟨g, i * 3, none⟩ = some (.int .i32 p.num) ∧ W.cell? ⟨g, i * 3 + 1, none⟩ = some (str p.text) ∧ W.cell? ⟨g, i * 3 + 2, none⟩ = some (.bool p.is) ∧ ∀ j, W.frozen? ⟨g, j, none⟩ = false := by
  obtain ⟨h1, h2⟩ := h
  have hlt := (List.getElem?_eq_some_iff.1 hi).1
  rcases h2 with ⟨e, h0⟩ | ⟨g, cap', cur, e, hb, hh, hn, hcm, hs, ht⟩
  · omega
  · injection e with e1 e2 e3
    subst e1 e2 e3
    have each : ∀ j, j < 3 → cur[i * 3 + j]? = (prmCells p)[j]? := fun j hj => by
      rw [← prmVals_at hi j hj, ← ht, List.getElem?_take_of_lt (by omega), Array.getElem?_toList]
    refine ⟨g, rfl, hn, (Array.getElem?_eq_some_iff.1 hh).1, ?_, ?_, ?_, fun j => frozen_of_row W g j _ _ hh⟩
    · rw [cell_of_row W g (i * 3) cur _ (0, 0) hh]; exact each 0 (by omega)
    · rw [cell_of_row W g (i * 3 + 1) cur _ (0, 0) hh]; exact each 1 (by omega)
    · rw [cell_of_row W g (i * 3 + 2) cur _ (0, 0) hh]; exact each 2 (by omega)

/-! ### the variables -/
/-- an element of the map is told by itself -/
def heldR (v : Value) : Option (DataW Value × List MemPlace) := some (.held v, [])
theorem lawB : Keyed Tryd.prog 5 := int_keyed Tryd.underlying5
theorem zeroP (w : World) : (zeroValue 32).run Tryd.prog w = .ok (prmVal prm0) w := by kernel_rfl
/-- the variables in memory: what each holds -/
structure VarsAt (W : World) (vb bm : Nat) (vs : UInt8 → PrmD) : Prop where
  box : W.heap[vb]? = some (.cells #[.map (some bm)] 57 (0, 0))
  map : ∃ n D, W.ownsMap Tryd.prog 5 heldR bm n D ∧ n ≤ 1000000 ∧ ∀ c : UInt8, D.atKey (.int .u8 (c.toNat : Int)) (.held (prmVal prm0)) = .held (prmVal (vs c))
theorem VarsAt.same {W W' : World} {vb bm : Nat} {vs : UInt8 → PrmD} (h : VarsAt W vb bm vs) (hv : W'.heap[vb]? = W.heap[vb]?) (hm : W'.heap[bm]? = W.heap[bm]?) : VarsAt W' vb bm vs := by
  obtain ⟨n, D, h1, h2, h3⟩ := h.map
  obtain ⟨es, clock, g1, g2⟩ := h1
  exact ⟨hv.trans h.box, n, D, ⟨es, clock, hm.trans g1, g2⟩, h2, h3⟩
theorem VarsAt.lt {W : World} {vb bm : Nat} {vs : UInt8 → PrmD} (h : VarsAt W vb bm vs) : vb < W.heap.size ∧ bm < W.heap.size := by
  obtain ⟨n, D, h1, _⟩ := h.map
  exact ⟨(Array.getElem?_eq_some_iff.1 h.box).1, h1.lt⟩

/-! ### the evaluator -/
structure MachAt (W : World) (B : Nat) (K : Nat → Prop) (mb vb bm : Nat) (pv sv ov : Value) (m : MD) : Prop where
  box : W.heap[mb]? = some (.cells #[.pointer (some ⟨vb, 0, none⟩), pv, sv, ov, .int .i64 m.depth] 53 (0, 0))
  base : B ≤ mb
  prow : PrmRow W B pv m.params
  srow : PrmRow W B sv m.stack
  orow : ByteRow W B ov m.out
  apart : ∀ k, pv.ownBlock = some k → sv.ownBlock ≠ some k
  vars : VarsAt W vb bm m.vars
  older : vb < B ∧ bm < B
  free : ∀ k, K k → k < W.heap.size ∧ k ≠ mb ∧ k ≠ bm ∧ pv.ownBlock ≠ some k ∧ sv.ownBlock ≠ some k ∧ ov.ownBlock ≠ some k ∧ ∀ cur, W.heap[k]? ≠ some (.cells cur 5 (0, 0))
  small : m.params.length ≤ 9 ∧ m.stack.length ≤ 64 ∧ m.out.length ≤ 16384 ∧ m.depth ≤ 100000
theorem types_ne : 32 ≠ 53 ∧ 5 ≠ 53 ∧ 5 ≠ 32 := by decide
section
variable {W W' : World} {B mb vb bm : Nat} {K : Nat → Prop} {pv sv ov : Value} {m : MD}
theorem MachAt.lt (h : MachAt W B K mb vb bm pv sv ov m) : mb < W.heap.size := (Array.getElem?_eq_some_iff.1 h.box).1
theorem MachAt.baseLt (h : MachAt W B K mb vb bm pv sv ov m) : B ≤ W.heap.size := Nat.le_of_lt (Nat.lt_of_le_of_lt h.base h.lt)
theorem MachAt.pne (h : MachAt W B K mb vb bm pv sv ov m) {k : Nat} (hk : pv.ownBlock = some k) : k ≠ mb := fun e => by
  obtain ⟨cur, hh⟩ := own_type h.prow hk
  subst e
  rw [h.box] at hh
  injection hh with hh
  injection hh with _ hh
  exact types_ne.1 hh.symm
theorem MachAt.sne (h : MachAt W B K mb vb bm pv sv ov m) {k : Nat} (hk : sv.ownBlock = some k) : k ≠ mb := fun e => by
  obtain ⟨cur, hh⟩ := own_type h.srow hk
  subst e
  rw [h.box] at hh
  injection hh with hh
  injection hh with _ hh
  exact types_ne.1 hh.symm
theorem MachAt.one (h : MachAt W B K mb vb bm pv sv ov m) {k : Nat} (hk : ov.ownBlock = some k) : k ≠ mb := fun e => by
  obtain ⟨cur, hh⟩ := own_type h.orow hk
  subst e
  rw [h.box] at hh
  injection hh with hh
  injection hh with _ hh
  exact types_ne.2.1 hh.symm
theorem MachAt.po (h : MachAt W B K mb vb bm pv sv ov m) {k : Nat} (hk : pv.ownBlock = some k) : ov.ownBlock ≠ some k := fun e => by
  obtain ⟨cur, hh⟩ := own_type h.prow hk
  obtain ⟨cur', hh'⟩ := own_type h.orow e
  rw [hh] at hh'
  injection hh' with hh'
  injection hh' with _ hh'
  exact types_ne.2.2 hh'.symm
theorem MachAt.so (h : MachAt W B K mb vb bm pv sv ov m) {k : Nat} (hk : sv.ownBlock = some k) : ov.ownBlock ≠ some k := fun e => by
  obtain ⟨cur, hh⟩ := own_type h.srow hk
  obtain ⟨cur', hh'⟩ := own_type h.orow e
  rw [hh] at hh'
  injection hh' with hh'
  injection hh' with _ hh'
  exact types_ne.2.2 hh'.symm
theorem MachAt.below (h : MachAt W B K mb vb bm pv sv ov m) (hb : Below W.heap.size W W') : MachAt W' B K mb vb bm pv sv ov m :=
  ⟨(hb.block _ h.lt).trans h.box, h.base, own_same h.prow fun j hj => hb.block j (own_lt h.prow j hj).2, own_same h.srow fun j hj => hb.block j (own_lt h.srow j hj).2, own_same h.orow fun j hj => hb.block j (own_lt h.orow j hj).2, h.apart, h.vars.same (hb.block _ h.vars.lt.1) (hb.block _ h.vars.lt.2), h.older, fun k hk => by
    obtain ⟨a1, a2, a3, a4, a5, a6, a7⟩ := h.free k hk
    exact ⟨Nat.lt_of_lt_of_le a1 hb.size, a2, a3, a4, a5, a6, fun cur => by rw [hb.block k a1]; exact a7 cur⟩, h.small⟩
theorem MachAt.cells (h : MachAt W B K mb vb bm pv sv ov m) : W.cell? ⟨mb, 0, none⟩ = some (.pointer (some ⟨vb, 0, none⟩)) ∧ W.cell? ⟨mb, 1, none⟩ = some pv ∧ W.cell? ⟨mb, 2, none⟩ = some sv ∧ W.cell? ⟨mb, 3, none⟩ = some ov ∧ W.cell? ⟨mb, 4, none⟩ = some (.int .i64 m.depth) :=
  ⟨cell_of_row W mb 0 _ _ _ h.box, cell_of_row W mb 1 _ _ _ h.box, cell_of_row W mb 2 _ _ _ h.box, cell_of_row W mb 3 _ _ _ h.box, cell_of_row W mb 4 _ _ _ h.box⟩
theorem MachAt.frozen (h : MachAt W B K mb vb bm pv sv ov m) (i : Nat) : W.frozen? ⟨mb, i, none⟩ = false := frozen_of_row W mb i _ _ h.box
/-- another depth -/
theorem MachAt.setDepth (h : MachAt W B K mb vb bm pv sv ov m) (d : Nat) (hd : d ≤ 100000) : MachAt (W.setCell ⟨mb, 4, none⟩ (.int .i64 (d : Int))) B K mb vb bm pv sv ov { m with depth := d } :=
  ⟨heap_setCell_same W mb 4 _ _ _ h.box, h.base, own_same h.prow fun j hj => Below.heap_setCell _ _ _ _ (h.pne hj), own_same h.srow fun j hj => Below.heap_setCell _ _ _ _ (h.sne hj), own_same h.orow fun j hj => Below.heap_setCell _ _ _ _ (h.one hj), h.apart, h.vars.same (Below.heap_setCell _ _ _ _ (by have := h.base; have := h.older.1; simp; omega)) (Below.heap_setCell _ _ _ _ (by have := h.base; have := h.older.2; simp; omega)), h.older, fun k hk => by
    obtain ⟨a1, a2, a3, a4, a5, a6, a7⟩ := h.free k hk
    exact ⟨by simpa using a1, a2, a3, a4, a5, a6, fun cur => by rw [Below.heap_setCell _ _ _ _ a2]; exact a7 cur⟩, h.small.1, h.small.2.1, h.small.2.2.1, hd⟩
/-- a shorter stack -/
theorem MachAt.cut {A : Option Addr} {n cap : Nat} (h : MachAt W B K mb vb bm pv (.slice A n cap) ov m) (hn : n = m.stack.length) : MachAt (W.setCell ⟨mb, 2, none⟩ (.slice A (n - 1) cap)) B K mb vb bm pv (.slice A (n - 1) cap) ov (popM m) := by
  subst hn
  have hr := own_cut h.srow (Nat.sub_le _ 1)
  rw [prmVals_take, ← List.dropLast_eq_take] at hr
  have hr2 : PrmRow W B (.slice A (m.stack.length - 1) cap) m.stack.dropLast := by
    unfold PrmRow
    rw [List.length_dropLast]
    exact hr
  have hown : ∀ k, (Value.slice A (m.stack.length - 1) cap).ownBlock = some k → (Value.slice A m.stack.length cap).ownBlock = some k := fun k hk => by
    cases A with
    | none => cases hk
    | some a => exact hk
  exact ⟨heap_setCell_same W mb 2 _ _ _ h.box, h.base, own_same h.prow fun j hj => Below.heap_setCell _ _ _ _ (h.pne hj), own_same hr2 fun j hj => Below.heap_setCell _ _ _ _ (h.sne (hown j hj)), own_same h.orow fun j hj => Below.heap_setCell _ _ _ _ (h.one hj), fun k hk e => h.apart k hk (hown k e), h.vars.same (Below.heap_setCell _ _ _ _ (by have := h.base; have := h.older.1; simp; omega)) (Below.heap_setCell _ _ _ _ (by have := h.base; have := h.older.2; simp; omega)), h.older, fun k hk => by
    obtain ⟨a1, a2, a3, a4, a5, a6, a7⟩ := h.free k hk
    exact ⟨by simpa using a1, a2, a3, a4, fun e => a5 (hown k e), a6, fun cur => by rw [Below.heap_setCell _ _ _ _ a2]; exact a7 cur⟩, h.small.1, by have := h.small.2.1; simp [popM]; omega, h.small.2.2⟩
/-- one value more on the stack -/
theorem MachAt.grow {sv' : Value} {p : PrmD} (h : MachAt W B K mb vb bm pv sv ov m) (hr : PrmRow W' B sv' (m.stack ++ [p])) (hg : W.grownBy W' sv.ownBlock) (hv : sv'.ownBlock = sv.ownBlock ∨ sv'.ownBlock = some W.heap.size) (hl : m.stack.length < 64) :
    W'.cell? ⟨mb, 2, none⟩ = some sv ∧ W'.frozen? ⟨mb, 2, none⟩ = false ∧ MachAt (W'.setCell ⟨mb, 2, none⟩ sv') B K mb vb bm pv sv' ov (pushM m p) := by
  have hT := Touch.of_grown (T := fun k => sv.ownBlock = some k) hg fun k hk => hk
  have hbox : W'.heap[mb]? = _ := (hT.block mb h.lt fun e => h.sne e rfl).trans h.box
  have hne : ∀ k, sv'.ownBlock = some k → k ≠ mb := fun k hk e => by
    obtain ⟨cur, hh⟩ := own_type hr hk
    subst e
    rw [hbox] at hh
    injection hh with hh
    injection hh with _ hh
    exact types_ne.1 hh.symm
  refine ⟨cell_of_row W' mb 2 _ _ _ hbox, frozen_of_row W' mb 2 _ _ hbox, heap_setCell_same W' mb 2 _ _ _ hbox, h.base, own_same h.prow fun j hj => ?_, own_same hr fun j hj => Below.heap_setCell _ _ _ _ (hne j hj), own_same h.orow fun j hj => ?_, fun k hk e => ?_, h.vars.same ?_ ?_, h.older, fun k hk => ?_, h.small.1, by simp [pushM]; omega, h.small.2.2⟩
  · rw [Below.heap_setCell _ _ _ _ (h.pne hj), hT.block j (own_lt h.prow j hj).2 (h.apart j hj)]
  · rw [Below.heap_setCell _ _ _ _ (h.one hj), hT.block j (own_lt h.orow j hj).2 fun e => h.so e hj]
  · rcases hv with hv | hv
    · exact h.apart k hk (hv ▸ e)
    · rw [hv] at e
      injection e with e
      have := (own_lt h.prow k hk).2
      omega
  · have hlt := h.vars.lt.1
    rw [Below.heap_setCell _ _ _ _ (by have := h.base; have := h.older.1; simp; omega), hT.block _ hlt fun e => by have := (own_lt h.srow _ e).1; have := h.older.1; omega]
  · have hlt := h.vars.lt.2
    rw [Below.heap_setCell _ _ _ _ (by have := h.base; have := h.older.2; simp; omega), hT.block _ hlt fun e => by have := (own_lt h.srow _ e).1; have := h.older.2; omega]
  · obtain ⟨a1, a2, a3, a4, a5, a6, a7⟩ := h.free k hk
    refine ⟨by have := hT.size; simp; omega, a2, a3, a4, fun e => ?_, a6, fun cur => by rw [Below.heap_setCell _ _ _ _ a2, hT.block k a1 a5]; exact a7 cur⟩
    rcases hv with hv | hv
    · exact a5 (hv ▸ e)
    · rw [hv] at e
      injection e with e
      omega
/-- bytes written -/
theorem MachAt.wrote {ov' : Value} {x : List UInt8} (h : MachAt W B K mb vb bm pv sv ov m) (hr : ByteRow W' B ov' (m.out ++ x)) (hg : W.grownBy W' ov.ownBlock) (hl : m.out.length + x.length ≤ 16384) :
    W'.cell? ⟨mb, 3, none⟩ = some ov ∧ W'.frozen? ⟨mb, 3, none⟩ = false ∧ MachAt (W'.setCell ⟨mb, 3, none⟩ ov') B K mb vb bm pv sv ov' { m with out := m.out ++ x } := by
  have hT := Touch.of_grown (T := fun k => ov.ownBlock = some k) hg fun k hk => hk
  have hbox : W'.heap[mb]? = _ := (hT.block mb h.lt fun e => h.one e rfl).trans h.box
  have hne : ∀ k, ov'.ownBlock = some k → k ≠ mb := fun k hk e => by
    obtain ⟨cur, hh⟩ := own_type hr hk
    subst e
    rw [hbox] at hh
    injection hh with hh
    injection hh with _ hh
    exact types_ne.2.1 hh.symm
  refine ⟨cell_of_row W' mb 3 _ _ _ hbox, frozen_of_row W' mb 3 _ _ hbox, heap_setCell_same W' mb 3 _ _ _ hbox, h.base, own_same h.prow fun j hj => ?_, own_same h.srow fun j hj => ?_, own_same hr fun j hj => Below.heap_setCell _ _ _ _ (hne j hj), h.apart, h.vars.same ?_ ?_, h.older, fun k hk => ?_, h.small.1, h.small.2.1, by simp; omega, h.small.2.2.2⟩
  · rw [Below.heap_setCell _ _ _ _ (h.pne hj), hT.block j (own_lt h.prow j hj).2 (h.po hj)]
  · rw [Below.heap_setCell _ _ _ _ (h.sne hj), hT.block j (own_lt h.srow j hj).2 (h.so hj)]
  · have hlt := h.vars.lt.1
    rw [Below.heap_setCell _ _ _ _ (by have := h.base; have := h.older.1; simp; omega), hT.block _ hlt fun e => by have := (own_lt h.orow _ e).1; have := h.older.1; omega]
  · have hlt := h.vars.lt.2
    rw [Below.heap_setCell _ _ _ _ (by have := h.base; have := h.older.2; simp; omega), hT.block _ hlt fun e => by have := (own_lt h.orow _ e).1; have := h.older.2; omega]
  · obtain ⟨a1, a2, a3, a4, a5, a6, a7⟩ := h.free k hk
    refine ⟨by have := hT.size; simp; omega, a2, a3, a4, a5, fun e => ?_, fun cur => by rw [Below.heap_setCell _ _ _ _ a2, hT.block k a1 a6]; exact a7 cur⟩
    obtain ⟨cur, hh⟩ := own_type hr e
    rw [hT.block k a1 a6] at hh
    exact a7 cur hh
end
end Go.Proofs.YtapihomdfdhnnaaDoor
