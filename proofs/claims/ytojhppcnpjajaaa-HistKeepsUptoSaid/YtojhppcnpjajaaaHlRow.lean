/-
  Lines of a history as cells; a row of elements that lies anywhere in a block, what is appended to it, cut and cleared. No program is walked here, and nothing is assumed.
-/
import Derived.Test.YtojhppcnpjajaaaHlBase
namespace Go.Proofs.Ytojhppcnpjajaaa
open Go.RowKit Go.Shelf Go.Lib

/-- what a call that makes memory leaves of the cells that were -/
theorem bcell {W w1 : World} (hb : Below W.heap.size W w1) : (∀ b o, b < W.heap.size → w1.cell? ⟨b, o, none⟩ = W.cell? ⟨b, o, none⟩) ∧ (∀ b o, b < W.heap.size → w1.frozen? ⟨b, o, none⟩ = W.frozen? ⟨b, o, none⟩) :=
  ⟨fun b o h => hb.cell (p := ⟨b, o, none⟩) h, fun b o h => hb.frozen (p := ⟨b, o, none⟩) h⟩
/-- an append in a region, by its run's equation -/
theorem step_of_run2 {P : Program} {ops : Array Oper} {o : Oper} {a : Act} {w : World} {K : Act → World → Prop} {Q : Exit → Act → World → Prop} {E : Prop} {t ty : TypeId} {vs vx v' : Value} {w' : World} (hr : (Builtin.append_ #[t, t] ty #[vs, vx]).run P w = .ok v' w')
    (hev : o.guard = none ∧ o.type = ty ∧ ∃ s x, o.op = .call { callee := .builtin .append, args := #[s, x], argTypes := #[t, t] } ∧ a.eval s = vs ∧ a.eval x = vx) (h : K (a.put o.dst v') w') :
    if Region.wanted o (yielded ops a.tmps) = true then Oper.wp P o a w K Q else E := by
  obtain ⟨h1, h4, s, x, ho, h2, h3⟩ := hev
  exact step_append_is hr h1 s x ho h4 h2 h3 h
/-- n elements that lie from v on, in a block of their own -/
def Seg (w : World) (T : TypeId) (size : Nat) (v : Value) (n : Nat) (xs : List Value) : Prop :=
  xs.length = n * size ∧ ((v = .slice none 0 0 ∧ n = 0) ∨ ∃ k off cap cur, v = .slice (some ⟨k, off, none⟩) n cap ∧ w.heap[k]? = some (.cells cur T (0, 0)) ∧ n ≤ cap ∧ cap ≤ maxLen ∧ off + cap * size ≤ cur.size ∧ (cur.toList.drop off).take (n * size) = xs)
theorem heap_lt {w : World} {k : Nat} {o : Obj} (h : w.heap[k]? = some o) : k < w.heap.size := (Array.getElem?_eq_some_iff.1 h).1
theorem seg_cell {w : World} {k off n : Nat} {cur : Array Value} {t : TypeId} {xs : List Value} (hk : w.heap[k]? = some (.cells cur t (0, 0))) (ht : (cur.toList.drop off).take n = xs) (j : Nat) (u : Value) (hu : xs[j]? = some u) :
    w.cell? ⟨k, off + j, none⟩ = some u := by
  rw [cell_of_row w k (off + j) cur t (0, 0) hk]
  rw [← ht, List.getElem?_take] at hu
  split at hu
  · rw [List.getElem?_drop] at hu
    rw [← hu, Array.getElem?_toList]
  · cases hu
section
variable {w w' : World} {T : TypeId} {size n : Nat} {v : Value} {xs : List Value}
theorem Seg.nil (w : World) (T : TypeId) (size : Nat) : Seg w T size (.slice none 0 0) 0 [] := ⟨by simp, .inl ⟨rfl, rfl⟩⟩
theorem Seg.form (h : Seg w T size v n xs) : ∃ A c, v = .slice A n c ∧ n ≤ c ∧ Src w size A c n xs := by
  obtain ⟨hl, ⟨rfl, rfl⟩ | ⟨k, off, cap, cur, rfl, hk, h1, h2, h3, h4⟩⟩ := h
  · exact ⟨none, 0, rfl, Nat.le_refl _, hl, fun _ => ⟨rfl, rfl⟩, fun h => by omega⟩
  · exact ⟨_, cap, rfl, h1, hl, (fun e => by cases e), fun _ => ⟨k, off, rfl, heap_lt hk, seg_cell hk h4⟩⟩
theorem Seg.kept (h : Seg w T size v n xs) (hk : ∀ k, v.ownBlock = some k → w'.heap[k]? = w.heap[k]?) : Seg w' T size v n xs := by
  obtain ⟨hl, h | ⟨k, off, cap, cur, rfl, hk0, hr⟩⟩ := h
  · exact ⟨hl, .inl h⟩
  · exact ⟨hl, .inr ⟨k, off, cap, cur, rfl, (hk k rfl).trans hk0, hr⟩⟩
theorem Seg.block (h : Seg w T size v n xs) : ∀ k, v.ownBlock = some k → k < w.heap.size ∧ ∃ cur, w.heap[k]? = some (.cells cur T (0, 0)) := by
  intro k' e
  obtain ⟨hl, ⟨rfl, rfl⟩ | ⟨k, off, cap, cur, rfl, hk, hr⟩⟩ := h
  · cases e
  · injection e with e
    subst e
    exact ⟨heap_lt hk, cur, hk⟩
theorem Seg.below (h : Seg w T size v n xs) (hb : Below w.heap.size w w') : Seg w' T size v n xs := h.kept fun k e => hb.block k (h.block k e).1
theorem Seg.of_row {base : Nat} (h : w.ownsRow base T size v n xs) : Seg w T size v n xs := by
  obtain ⟨hl, ⟨rfl, h0⟩ | ⟨g, cap, cur, rfl, hb, hg, hn, hm, hc, ht⟩⟩ := h
  · exact ⟨hl, .inl ⟨rfl, h0⟩⟩
  · exact ⟨hl, .inr ⟨g, 0, cap, cur, rfl, hg, hn, hm, by omega, by simpa using ht⟩⟩
/-- cut at its front -/
theorem Seg.cut {A : Option Addr} {c : Nat} (h : Seg w T size (.slice A n c) n xs) {k : Nat} (hk : k ≤ n) : Seg w T size (.slice (tailA A c k size) (n - k) (c - k)) (n - k) (xs.drop (k * size)) := by
  obtain ⟨hl, ⟨e, rfl⟩ | ⟨b, off, cap, cur, e, hk0, h1, h2, h3, h4⟩⟩ := h
  · injection e with e1 e2 e3
    subst e1 e3
    obtain rfl : k = 0 := by omega
    refine ⟨by simpa using hl, .inl ⟨by simp [tailA], rfl⟩⟩
  · injection e with e1 e2 e3
    subst e1 e3
    have hl2 : (xs.drop (k * size)).length = (n - k) * size := by rw [List.length_drop, hl, Nat.sub_mul]
    refine ⟨hl2, .inr ?_⟩
    unfold tailA
    by_cases hc : c = k
    · have hn : n = k := by omega
      have h0 : n - k = 0 := by omega
      rw [h0, Nat.zero_mul] at hl2
      rw [if_pos hc, h0, List.eq_nil_of_length_eq_zero hl2]
      exact ⟨b, off, c - k, cur, rfl, hk0, by omega, by omega, by rw [hc, Nat.sub_self, Nat.zero_mul]; omega, by simp⟩
    · rw [if_neg hc]
      have e5 : (c - k) * size = c * size - k * size := Nat.sub_mul _ _ _
      have e6 : k * size ≤ c * size := Nat.mul_le_mul_right _ (by omega)
      refine ⟨b, off + k * size, c - k, cur, by simp [add_off], hk0, by omega, by omega, by omega, ?_⟩
      rw [← List.drop_drop, Nat.sub_mul, ← List.drop_take, h4]

/-- an append within the row -/
theorem run_append_room {P : Program} (w : World) (t ty e : TypeId) (i : TypeInfo) (size : Nat) (ht : P.underlying t = some (.slice e)) (hi : P.info? e = some i) (hs : i.size = size)
    (g off sLen sCap : Nat) (cur : Array Value) (hg : w.heap[g]? = some (.cells cur e (0, 0)))
    (a : Addr) (m c : Nat) (news : List Value) (hl : news.length = m * size) (hnews : ∀ j u, news[j]? = some u → w.cell? (a.add j) = some u) (h1 : ∀ u ∈ news, u.oneCell' = true)
    (hroom : sLen + m ≤ sCap) (hfit : off + sLen * size + news.length ≤ cur.size) :
    (Builtin.append_ #[t, t] ty #[.slice (some ⟨g, off, none⟩) sLen sCap, .slice (some a) m c]).run P w =
      .ok (.slice (some ⟨g, off, none⟩) (sLen + m) sCap) (w.setRow g (cur.toList.take (off + sLen * size) ++ news ++ cur.toList.drop (off + sLen * size + news.length)).toArray) := by
  have hf := run_firstCells_some (P := P) w i.size m a m c news (by rw [hs, hl]) hnews
  have hst := run_storeCells_at P g (off + sLen * size) e news 0 cur w hg (by simpa using hfit) h1
  simp only [Nat.add_zero] at hst
  rw [hs] at hf
  simp [Builtin.append_, run_underlying ht, sizeOf, typeInfo, hi, hs, Builtin.lenOf, hroom, hf, add_off, hst]
theorem run_append_seg {P : Program} (w : World) (t ty : TypeId) (i : TypeInfo) (z : Value) (bytes : Nat) (ht : P.underlying t = some (.slice T)) (hi : P.info? T = some i) (hz : i.zero = some z)
    (hsize : i.size = size) (hby : i.bytes = bytes) (hzs : z.cells.size = size) (hsz : 0 < size) (h : Seg w T size v n xs) {A : Option Addr} {c m : Nat} {news : List Value} (hs : Src w size A c m news) (h1 : ∀ u ∈ news, u.oneCell' = true)
    (h63 : n + m ≤ maxLen) (hbytes : (n + m) * bytes ≤ 140737488355328) :
    ∃ A' c' w', (Builtin.append_ #[t, t] ty #[v, .slice A m c]).run P w = .ok (.slice A' (n + m) c') w' ∧ Seg w' T size (.slice A' (n + m) c') (n + m) (xs ++ news) ∧ w.grownBy w' v.ownBlock ∧ (∀ k, Value.ownBlock (.slice A' (n + m) c') = some k → v.ownBlock = some k ∨ w.heap.size ≤ k) := by
  have hln := hs.len
  cases A with
  | none =>
    obtain ⟨rfl, rfl⟩ := hs.nil rfl
    obtain rfl : news = [] := List.eq_nil_of_length_eq_zero (by omega)
    obtain ⟨hl, ⟨rfl, rfl⟩ | ⟨k, off, cap, cur, rfl, hk, h5, h2, h3, h4⟩⟩ := id h
    · refine ⟨none, 0, w, ?_, by simpa using h, World.grownBy.refl w _, fun k hk => .inl hk⟩
      simp [Builtin.append_, run_underlying ht, sizeOf, typeInfo, hi, Builtin.lenOf, Builtin.firstCells]
    · refine ⟨some ⟨k, off, none⟩, cap, w, ?_, by simpa using h, World.grownBy.refl w _, fun k hk => .inl hk⟩
      simp [Builtin.append_, run_underlying ht, sizeOf, typeInfo, hi, Builtin.lenOf, Builtin.firstCells, h5, storeCells]
  | some a =>
    have hnews : ∀ j u, news[j]? = some u → w.cell? (a.add j) = some u := fun j u hu => by
      have hj : j < news.length := (List.getElem?_eq_some_iff.1 hu).1
      rcases Nat.eq_zero_or_pos m with h0 | h0
      · rw [h0, Nat.zero_mul] at hln
        omega
      · obtain ⟨k, off, e1, _, hc⟩ := hs.cells h0
        injection e1 with e1
        subst e1
        rw [add_off]
        exact hc j u hu
    obtain ⟨hl, ⟨rfl, rfl⟩ | ⟨k, off, cap, cur, rfl, hk, h5, h2, h3, h4⟩⟩ := id h
    · obtain rfl : xs = [] := List.eq_nil_of_length_eq_zero (by omega)
      obtain ⟨v', w', hrun, ho, hg, _⟩ := run_append_own (P := P) w w.heap.size t ty T i z size bytes ht hi hz hsize hby hzs hsz (.slice none 0 0) 0 [] (World.ownsRow_nil w w.heap.size _ _) a m c news hln hnews h1 h63 hbytes (Nat.le_refl _)
      obtain ⟨A', c', rfl, _⟩ := own_form ho
      exact ⟨A', c', w', hrun, Seg.of_row ho, hg, fun k hk => .inr (own_lt ho k hk).1⟩
    · by_cases hroom : n + m ≤ cap
      · have e7 : n * size + m * size ≤ cap * size := by rw [← Nat.add_mul]; exact Nat.mul_le_mul_right _ hroom
        have hrun := run_append_room (P := P) w t ty T i size ht hi hsize k off n cap cur hk a m c news hln hnews h1 hroom (by omega)
        refine ⟨_, _, _, hrun, ⟨by rw [List.length_append, hl, hln, Nat.add_mul], .inr ⟨k, off, cap, _, rfl, setRow_heap w k cur _ _ _ hk, hroom, h2, ?_, ?_⟩⟩, ⟨rfl, rfl, rfl, by simp [World.setRow], fun j _ hj => setRow_other w k j _ (fun e => hj (by simp [Value.ownBlock, e]))⟩, fun j hj => .inl hj⟩
        · simp only [List.size_toArray, List.length_append, List.length_take, List.length_drop, Array.length_toList]
          omega
        · have e1 : (cur.toList.take (off + n * size)).drop off = xs := by
            rw [List.drop_take, ← h4]
            congr 1
            omega
          have e2 : off ≤ (cur.toList.take (off + n * size)).length := by
            have hcl : cur.toList.length = cur.size := Array.length_toList
            rw [List.length_take]
            omega
          show List.take ((n + m) * size) (List.drop off (cur.toList.take (off + n * size) ++ news ++ cur.toList.drop (off + n * size + news.length))) = xs ++ news
          rw [List.append_assoc, List.drop_append_of_le_length e2, e1, ← List.append_assoc]
          have e3 : (n + m) * size = (xs ++ news).length := by rw [List.length_append, hl, hln, Nat.add_mul]
          rw [e3]
          exact List.take_left
      · obtain ⟨v', w', hrun, ho, hg⟩ := run_append_arg_grows (P := P) w t ty T i z size bytes ht hi hz hsize hby hzs hsz ⟨k, off, none⟩ n cap xs hl (fun j u hu => by rw [add_off]; exact seg_cell hk h4 j u hu) a m c news hln hnews (by omega) h63 hbytes
        obtain ⟨A', c', rfl, _⟩ := own_form ho
        exact ⟨A', c', w', hrun, Seg.of_row ho, ⟨hg.os, hg.tape, hg.output, hg.size, fun j hj _ => hg.block j hj (by simp)⟩, fun k hk => .inr (own_lt ho k hk).1⟩
/-- the first m elements cleared: what lies behind them stays -/
theorem run_clear_seg {P : Program} (t ty : TypeId) (z : Value) (ht : P.underlying t = some (.slice T)) (hz : ∀ w, (zeroValue T).run P w = .ok z w) (hzs : z.cells.size = size) (hz1 : ∀ u ∈ z.cells.toList, u.oneCell' = true) {A : Option Addr} {c : Nat} (h : Seg w T size (.slice A n c) n xs) {m : Nat} (hm : m ≤ n) :
    ∃ w', (Builtin.clear_ #[t] ty #[.slice A m c]).run P w = .ok (.tuple #[]) w' ∧ Seg w' T size (.slice (tailA A c m size) (n - m) (c - m)) (n - m) (xs.drop (m * size)) ∧ w.grownBy w' (Value.ownBlock (.slice A n c)) := by
  have hcut := h.cut hm
  obtain ⟨hl, ⟨e, rfl⟩ | ⟨b, off, cap, cur, e, hk0, h1, h2, h3, h4⟩⟩ := id h
  · injection e with e1 e2 e3
    subst e1 e3
    exact ⟨w, by simp [Builtin.clear_, run_underlying ht], hcut, World.grownBy.refl w _⟩
  · injection e with e1 e2 e3
    subst e1 e3
    rcases Nat.eq_zero_or_pos m with rfl | hp
    · exact ⟨w, by simp [Builtin.clear_, run_underlying ht], hcut, World.grownBy.refl w _⟩
    · obtain ⟨m', rfl⟩ : ∃ m', m = m' + 1 := ⟨m - 1, by omega⟩
      have hlen : (Builtin.zeroCells z.cells (m' + 1)).toList.length = (m' + 1) * size := by simp [Builtin.zeroCells, hzs]
      have hone : ∀ u ∈ (Builtin.zeroCells z.cells (m' + 1)).toList, u.oneCell' = true := fun u hu => by
        simp only [Builtin.zeroCells, Array.toList_map, List.mem_map, Array.toList_range, List.mem_range] at hu
        obtain ⟨i, hi, rfl⟩ := hu
        have hp0 : 0 < z.cells.size := by
          rcases Nat.eq_zero_or_pos z.cells.size with h0 | h0
          · rw [h0, Nat.mul_zero] at hi
            omega
          · exact h0
        have hi2 : i % z.cells.size < z.cells.size := Nat.mod_lt _ hp0
        rw [getElem!_pos z.cells (i % z.cells.size) hi2]
        exact hz1 _ (by simp)
      have e7 : (m' + 1) * size ≤ c * size := Nat.mul_le_mul_right _ (by omega)
      have hst := run_storeCells_at P b off T _ 0 cur w hk0 (by rw [hlen]; omega) hone
      simp only [Nat.add_zero] at hst
      obtain ⟨zs, hzz⟩ : ∃ zs, (Builtin.zeroCells z.cells (m' + 1)).toList = zs := ⟨_, rfl⟩
      rw [hzz] at hlen hone hst
      have hcl : cur.toList.length = cur.size := Array.length_toList
      have hnew : Seg (w.setRow b (cur.toList.take off ++ zs ++ cur.toList.drop (off + zs.length)).toArray) T size (.slice (some ⟨b, off, none⟩) n c) n (zs ++ xs.drop ((m' + 1) * size)) := by
        refine ⟨by rw [List.length_append, hlen, List.length_drop, hl]; have : (m' + 1) * size ≤ n * size := Nat.mul_le_mul_right _ hm; omega, .inr ⟨b, off, c, _, rfl, setRow_heap w b cur _ _ _ hk0, h1, h2, ?_, ?_⟩⟩
        · simp only [List.size_toArray, List.length_append, List.length_take, List.length_drop, hcl]
          omega
        · show List.take (n * size) (List.drop off (cur.toList.take off ++ zs ++ cur.toList.drop (off + zs.length))) = _
          have e2 : (cur.toList.take off).length = off := by rw [List.length_take]; omega
          have hms : (m' + 1) * size ≤ n * size := Nat.mul_le_mul_right _ hm
          rw [List.append_assoc, List.drop_append, e2, List.drop_of_length_le (by omega), Nat.sub_self, List.drop_zero, List.nil_append, List.take_append, List.take_of_length_le (by omega), ← h4, hlen, List.drop_take, List.drop_drop]
      have hc2 := hnew.cut hm
      have hd : (zs ++ xs.drop ((m' + 1) * size)).drop ((m' + 1) * size) = xs.drop ((m' + 1) * size) := by rw [← hlen]; exact List.drop_left
      rw [hd] at hc2
      refine ⟨_, ?_, hc2, ⟨rfl, rfl, rfl, by simp [World.setRow], fun j _ hj => setRow_other w b j _ (fun e => hj (by simp [Value.ownBlock, e]))⟩⟩
      simp [Builtin.clear_, run_underlying ht, hz, hzz, hst]
end
end Go.Proofs.Ytojhppcnpjajaaa
