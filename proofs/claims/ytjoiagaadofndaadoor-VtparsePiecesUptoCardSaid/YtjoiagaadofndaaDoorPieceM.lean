/-
  Words for memory: a slice of bytes that lies somewhere in a row of the call's own; what is appended to it; the document's decoder. No program is walked here, and nothing is assumed.
-/
import Derived.Test.YtjoiagaadofndaaDoorVpTake
import Derived.Test.YtjoiagaadofndaaDoorPieceP
namespace Go.Proofs.YtjoiagaadofndaaDoor
open Go.RowKit

/-- the slice v holds the bytes s, and what it can grow into is the call's own -/
def OwnsAt (w : World) (base : Nat) (v : Value) (s : List UInt8) : Prop :=
  (v = .slice none 0 0 ∧ s = []) ∨
  ∃ k off cap cur, v = .slice (some ⟨k, off, none⟩) s.length cap ∧ base ≤ k ∧ w.heap[k]? = some (.cells cur 5 (0, 0)) ∧ s.length ≤ cap ∧ cap ≤ maxLen ∧ off + cap ≤ cur.size ∧ (cur.toList.drop off).take s.length = byteVals s

theorem heap_lt {w : World} {k : Nat} {o : Obj} (h : w.heap[k]? = some o) : k < w.heap.size := (Array.getElem?_eq_some_iff.1 h).1

theorem seg_cell {w : World} {k off n : Nat} {cur : Array Value} {t : TypeId} {xs : List Value} (hk : w.heap[k]? = some (.cells cur t (0, 0))) (ht : (cur.toList.drop off).take n = xs) (j : Nat) (u : Value) (hu : xs[j]? = some u) :
    w.cell? ⟨k, off + j, none⟩ = some u := by
  rw [cell_of_row w k (off + j) cur t (0, 0) hk]
  rw [← ht, List.getElem?_take] at hu
  split at hu
  · rw [List.getElem?_drop] at hu
    rw [← hu, Array.getElem?_toList]
  · cases hu

theorem OwnsAt.holds {w : World} {base : Nat} {v : Value} {s : List UInt8} (h : OwnsAt w base v s) : Holds1 w v (byteVals s) := by
  rcases h with ⟨rfl, rfl⟩ | ⟨k, off, cap, cur, rfl, hb, hk, h1, h2, h3, h4⟩
  · exact ⟨none, 0, rfl, ⟨Nat.le_refl _, fun _ => rfl⟩, fun h => by cases h⟩
  · exact ⟨some ⟨k, off, none⟩, cap, by rw [byteVals_length], ⟨by rw [byteVals_length]; exact h1, fun h => by cases h⟩, fun _ => ⟨k, off, rfl, heap_lt hk, seg_cell hk h4⟩⟩

theorem OwnsAt.block {w : World} {base : Nat} {v : Value} {s : List UInt8} (h : OwnsAt w base v s) : ∀ k, v.ownBlock = some k → base ≤ k ∧ k < w.heap.size ∧ ∃ cur, w.heap[k]? = some (.cells cur 5 (0, 0)) := by
  intro k' e
  rcases h with ⟨rfl, rfl⟩ | ⟨k, off, cap, cur, rfl, hb, hk, h1, h2, h3, h4⟩
  · cases e
  · injection e with e
    subst e
    exact ⟨hb, heap_lt hk, cur, hk⟩

theorem OwnsAt.shape {w : World} {base : Nat} {v : Value} {s : List UInt8} (h : OwnsAt w base v s) : ∃ A c, v = .slice A s.length c := by
  rcases h with ⟨rfl, rfl⟩ | ⟨k, off, cap, cur, rfl, _⟩
  · exact ⟨none, 0, rfl⟩
  · exact ⟨_, _, rfl⟩

/-- it stays so, as long as its block does -/
theorem OwnsAt.kept {w w' : World} {base : Nat} {v : Value} {s : List UInt8} (h : OwnsAt w base v s) (hk : ∀ k, v.ownBlock = some k → w'.heap[k]? = w.heap[k]?) : OwnsAt w' base v s := by
  rcases h with h | ⟨k, off, cap, cur, rfl, hb, hk0, hr⟩
  · exact .inl h
  · exact .inr ⟨k, off, cap, cur, rfl, hb, (hk k rfl).trans hk0, hr⟩
theorem OwnsAt.below {w w' : World} {base : Nat} {v : Value} {s : List UInt8} (h : OwnsAt w base v s) (hb : Below w.heap.size w w') : OwnsAt w' base v s :=
  h.kept fun k e => hb.block k (h.block k e).2.1

theorem OwnsAt.of_row {w : World} {base : Nat} {v : Value} {s : List UInt8} {n : Nat} (h : w.ownsRow base 5 1 v n (byteVals s)) : OwnsAt w base v s := by
  have hl : s.length = n := by have := h.1; rw [byteVals_length, Nat.mul_one] at this; exact this
  rcases h.2 with ⟨rfl, rfl⟩ | ⟨g, cap, cur, rfl, hb, hg, hn, hm, hc, ht⟩
  · exact .inl ⟨rfl, List.eq_nil_of_length_eq_zero hl⟩
  · subst hl
    refine .inr ⟨g, 0, cap, cur, rfl, hb, hg, hn, hm, by omega, ?_⟩
    rw [Nat.mul_one] at ht
    simpa using ht

/-- cut at its front -/
theorem OwnsAt.cut {w : World} {base : Nat} {A : Option Addr} {n c k : Nat} {s : List UInt8} (h : OwnsAt w base (.slice A n c) s) (hk : k ≤ s.length) : OwnsAt w base (.slice (cutA A c k) (s.length - k) (c - k)) (s.drop k) := by
  rcases h with ⟨e, rfl⟩ | ⟨b, off, cap, cur, e, hb, hk0, h1, h2, h3, h4⟩
  · injection e with e1 e2 e3
    subst e1 e3
    obtain rfl : k = 0 := by simpa using hk
    exact .inl ⟨rfl, rfl⟩
  · injection e with e1 e2 e3
    subst e1 e3
    unfold cutA
    by_cases hc : c = k
    · have hs : s.length = k := by omega
      have hd : s.drop k = [] := List.drop_of_length_le (by omega)
      rw [if_pos hc, hd]
      exact .inr ⟨b, off, c - k, cur, by rw [hs]; simp, hb, hk0, by simp, by omega, by omega, by simp [byteVals]⟩
    · rw [if_neg hc]
      refine .inr ⟨b, off + k, c - k, cur, by simp [Addr.add], hb, hk0, by simp; omega, by omega, by omega, ?_⟩
      rw [List.length_drop, ← List.drop_drop, ← List.drop_take, h4]
      simp [byteVals]

/-- an append within the row -/
theorem run_append_inside {P : Program} (w : World) (t ty e : TypeId) (i : TypeInfo) (ht : P.underlying t = some (.slice e)) (hi : P.info? e = some i) (hs : i.size = 1)
    (g off sLen sCap : Nat) (cur : Array Value) (hg : w.heap[g]? = some (.cells cur e (0, 0)))
    (a : Addr) (m c : Nat) (news : List Value) (hl : news.length = m) (hnews : ∀ j u, news[j]? = some u → w.cell? (a.add j) = some u) (h1 : ∀ u ∈ news, u.oneCell' = true)
    (hroom : sLen + m ≤ sCap) (hfit : off + sLen + news.length ≤ cur.size) :
    (Builtin.append_ #[t, t] ty #[.slice (some ⟨g, off, none⟩) sLen sCap, .slice (some a) m c]).run P w =
      .ok (.slice (some ⟨g, off, none⟩) (sLen + m) sCap) (w.setRow g (cur.toList.take (off + sLen) ++ news ++ cur.toList.drop (off + sLen + news.length)).toArray) := by
  have hf := run_firstCells_some (P := P) w i.size m a m c news (by rw [hs, hl]; omega) hnews
  have hst := run_storeCells_at P g (off + sLen) e news 0 cur w hg (by simpa using hfit) h1
  simp only [Nat.add_zero] at hst
  rw [hs] at hf
  simp [Builtin.append_, run_underlying ht, sizeOf, typeInfo, hi, hs, Builtin.lenOf, hroom, hf, Addr.add_lit, hst]

theorem run_append_at {P : Program} (w : World) (base : Nat) (t ty : TypeId) (i : TypeInfo) (z : Value) (ht : P.underlying t = some (.slice 5)) (hi : P.info? 5 = some i) (hz : i.zero = some z)
    (hsize : i.size = 1) (hby : i.bytes = 1) (hzs : z.cells.size = 1) (v : Value) (h : List UInt8) (hown : OwnsAt w base v h) (v2 : Value) (p : List UInt8) (hr : Holds1 w v2 (byteVals p)) (hlen : h.length + p.length ≤ 4000000000) (hbase : base ≤ w.heap.size) :
    ∃ v' w', (Builtin.append_ #[t, t] ty #[v, v2]).run P w = .ok v' w' ∧ OwnsAt w' base v' (h ++ p) ∧ w.grownBy w' v.ownBlock := by
  have hm : h.length + p.length ≤ maxLen := by unfold maxLen; omega
  obtain ⟨A, c, rfl, ⟨hc, hnil⟩, hcells⟩ := hr
  rw [byteVals_length] at hc hcells ⊢
  cases A with
  | none =>
    obtain rfl := hnil rfl
    obtain rfl : p = [] := List.eq_nil_of_length_eq_zero (by omega)
    refine ⟨v, w, ?_, by simpa using hown, World.grownBy.refl w _⟩
    rcases hown with ⟨rfl, rfl⟩ | ⟨k, off, cap, cur, rfl, _, _, h1, _⟩
    · simp [Builtin.append_, run_underlying ht, sizeOf, typeInfo, hi, Builtin.lenOf, Builtin.firstCells]
    · simp [Builtin.append_, run_underlying ht, sizeOf, typeInfo, hi, Builtin.lenOf, Builtin.firstCells, h1, storeCells]
  | some a =>
    have hnews : ∀ j u, (byteVals p)[j]? = some u → w.cell? (a.add j) = some u := fun j u hu => by
      have hl : j < (byteVals p).length := (List.getElem?_eq_some_iff.1 hu).1
      rw [byteVals_length] at hl
      obtain ⟨b, off, hA, _, hcell⟩ := hcells (by omega)
      injection hA with hA
      subst hA
      have := hcell j u hu
      unfold Addr.add
      split
      · next e0 => subst e0; exact this
      · exact this
    rcases hown with ⟨rfl, rfl⟩ | ⟨k, off, cap, cur, rfl, hb, hk, h1, h2, h3, h4⟩
    · obtain ⟨v', w', hrun, ho, hg, _⟩ := run_append_own (P := P) w base t ty 5 i z 1 1 ht hi hz hsize hby hzs (by decide) (.slice none 0 0) 0 [] (World.ownsRow_nil w base _ 1) a p.length c (byteVals p) (by rw [byteVals_length]; omega) hnews (byteVals_one p) (by unfold maxLen; simp at hlen; omega) (by simp at hlen; omega) hbase
      exact ⟨v', w', hrun, OwnsAt.of_row (by simpa using ho), hg⟩
    · by_cases hroom : h.length + p.length ≤ cap
      · have hrun := run_append_inside (P := P) w t ty 5 i ht hi hsize k off h.length cap cur hk a p.length c (byteVals p) (byteVals_length p) hnews (byteVals_one p) hroom (by rw [byteVals_length]; omega)
        refine ⟨_, _, hrun, .inr ⟨k, off, cap, _, by rw [List.length_append], hb, setRow_heap w k cur _ _ _ hk, by rw [List.length_append]; exact hroom, h2, ?_, ?_⟩, ⟨rfl, rfl, rfl, by simp [World.setRow], fun j _ hj => setRow_other w k j _ (fun e => hj (by simp [Value.ownBlock, e]))⟩⟩
        · simp only [List.size_toArray, List.length_append, List.length_take, List.length_drop, Array.length_toList, byteVals_length]
          omega
        · have e1 : (cur.toList.take (off + h.length)).drop off = byteVals h := by
            rw [List.drop_take, ← h4]
            congr 1
            omega
          have e2 : off ≤ (cur.toList.take (off + h.length)).length := by
            have hcl : cur.toList.length = cur.size := Array.length_toList
            rw [List.length_take]
            omega
          rw [List.length_append, byteVals_append, List.append_assoc, List.drop_append_of_le_length e2, e1, ← List.append_assoc]
          have e3 : h.length + p.length = (byteVals h ++ byteVals p).length := by rw [List.length_append, byteVals_length, byteVals_length]
          rw [e3]
          exact List.take_left
      · obtain ⟨v', w', hrun, ho, hg⟩ := run_append_arg_grows (P := P) w t ty 5 i z 1 1 ht hi hz hsize hby hzs (by decide) ⟨k, off, none⟩ h.length cap (byteVals h) (by rw [byteVals_length]; omega) (fun j u hu => by
            have := seg_cell hk h4 j u hu
            unfold Addr.add
            split
            · next e0 => subst e0; exact this
            · exact this) a p.length c (byteVals p) (by rw [byteVals_length]; omega) hnews (by omega) hm (by omega)
        refine ⟨v', w', hrun, OwnsAt.of_row (n := h.length + p.length) (own_base (by rw [byteVals_append]; exact ho) hbase), ⟨hg.os, hg.tape, hg.output, hg.size, fun j hj _ => hg.block j hj (by simp)⟩⟩

theorem append_at {P : Program} {ops : Array Oper} {rest : List Oper} {o : Oper} {a : Act} {Q : Exit → Act → World → Prop} (w : World) (hgd : o.guard = none) (s x : Operand) (t : TypeId)
    (ho : o.op = .call { callee := .builtin .append, args := #[s, x], argTypes := #[t, t] })
    (base : Nat) (i : TypeInfo) (z : Value) (ht : P.underlying t = some (.slice 5)) (hi : P.info? 5 = some i) (hz : i.zero = some z) (hsize : i.size = 1) (hby : i.bytes = 1) (hzs : z.cells.size = 1)
    (v : Value) (h : List UInt8) (hs : a.eval s = v) (hown : OwnsAt w base v h) (v2 : Value) (p : List UInt8) (hx : a.eval x = v2) (hr : Holds1 w v2 (byteVals p)) (hlen : h.length + p.length ≤ 4000000000) (hbase : base ≤ w.heap.size)
    (hgo : ∀ v' w', OwnsAt w' base v' (h ++ p) → w.grownBy w' v.ownBlock → wpList P ops Q rest (a.put o.dst v') w') : wpList P ops Q (o :: rest) a w := by
  obtain ⟨v', w', hrun, h1, h2⟩ := run_append_at (P := P) w base t o.type i z ht hi hz hsize hby hzs v h hown v2 p hr hlen hbase
  refine wpList_plain hgd fun K hK => ?_
  unfold Oper.wp
  simp [execOp, ho, resolve, invoke, builtin, hs, hx, hrun, Result.andThen]
  exact hK _ _ (hgo v' w' h1 h2)

/-- the document's decoder -/
def RefAt (w : World) (q : Nat) (v : Value) : Prop := w.heap[q]? = some (.cells #[v] 67 (0, 0))
theorem RefAt.lt {w : World} {q : Nat} {v : Value} (h : RefAt w q v) : q < w.heap.size := heap_lt h
theorem RefAt.cell {w : World} {q : Nat} {v : Value} (h : RefAt w q v) : w.cell? ⟨q, 0, none⟩ = some v := cell_of_row w q 0 _ _ _ h
theorem RefAt.frozen {w : World} {q : Nat} {v : Value} (h : RefAt w q v) : w.frozen? ⟨q, 0, none⟩ = false := frozen_of_row w q 0 _ _ h
theorem RefAt.below {w w' : World} {q : Nat} {v : Value} (h : RefAt w q v) (hb : Below w.heap.size w w') : RefAt w' q v := (hb.block q h.lt).trans h
theorem RefAt.set {w : World} {q : Nat} {v : Value} (h : RefAt w q v) (u : Value) : RefAt (w.setCell ⟨q, 0, none⟩ u) q u := heap_setCell_same w q 0 _ _ _ h

/-- nothing has turned but the decoder and one row -/
structure Only2 (w w' : World) (q : Nat) (row : Option Nat) : Prop where
  os : w'.os = w.os
  tape : w'.tape = w.tape
  output : w'.output = w.output
  size : w.heap.size ≤ w'.heap.size
  block : ∀ k, k < w.heap.size → k ≠ q → some k ≠ row → w'.heap[k]? = w.heap[k]?
theorem Only2.refl (w : World) (q : Nat) (row : Option Nat) : Only2 w w q row := ⟨rfl, rfl, rfl, Nat.le_refl _, fun _ _ _ _ => rfl⟩
theorem Only2.trans {a b c : World} {q : Nat} {row : Option Nat} (h : Only2 a b q row) (k : Only2 b c q row) : Only2 a c q row :=
  ⟨k.os.trans h.os, k.tape.trans h.tape, k.output.trans h.output, Nat.le_trans h.size k.size, fun i hi h1 h2 => (k.block i (Nat.lt_of_lt_of_le hi h.size) h1 h2).trans (h.block i hi h1 h2)⟩
theorem Only2.more {a b : World} {q : Nat} (h : Only2 a b q none) (row : Option Nat) : Only2 a b q row :=
  ⟨h.os, h.tape, h.output, h.size, fun i hi h1 _ => h.block i hi h1 (by simp)⟩
theorem Only2.of_below {a b : World} {q : Nat} {row : Option Nat} (h : Below a.heap.size a b) : Only2 a b q row :=
  ⟨h.os, h.tape, h.output, h.size, fun i hi _ _ => h.block i hi⟩
theorem Only2.of_grown {a b : World} {q : Nat} {row : Option Nat} (h : a.grownBy b row) : Only2 a b q row :=
  ⟨h.os, h.tape, h.output, h.size, fun i hi _ h2 => h.block i hi h2⟩
theorem Only2.set (w : World) (q : Nat) (row : Option Nat) (u : Value) : Only2 w (w.setCell ⟨q, 0, none⟩ u) q row :=
  ⟨rfl, rfl, rfl, by simp [World.setCell], fun k _ hk _ => Below.heap_setCell w ⟨q, 0, none⟩ u k hk⟩

end Go.Proofs.YtjoiagaadofndaaDoor
