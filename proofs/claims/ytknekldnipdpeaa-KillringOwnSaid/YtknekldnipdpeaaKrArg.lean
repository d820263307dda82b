/-
  How an argument that is a slice of runes, an operation, a list of operations or a list of slices of runes is opened.
-/
import Derived.Test.YtknekldnipdpeaaKrWit
import Derived.ChangeMaps5
import Derived.Deep.Slices
namespace Go.Proofs.Ytknekldnipdpeaa
open Go.ChangeShapes Go.WideShapes Go.ChangeAt Go.RowKit Go.ChangeMaps Go.Deep

theorem runes_of_trod {H : Type} {enc : TypeId × Value → H} {W : World} {fuel : Nat} {v : Value} {x : DataW H × List MemPlace} (hf : DataW.trod enc Try.prog W 0 (fun _ => true) true fuel 30 [v] = some x) (hw : ∀ n ∈ x.1.weights Try.prog 30, n ≤ reachBytes) :
    ∃ c : List Int, Holds1 W v (runeVals c) ∧ c.length ≤ 35184372087808 := by
  have hby : Try.prog.bytesOf 21 = 4 := by kernel_rfl
  rcases open_ints Try.underlying30 Try.underlying21 (by kernel_rfl) hf with ⟨hcs, hx⟩ | ⟨a, l, c, zs, hcs, _, hl, hm, hz, hx, hcell, hwz⟩
  · injection hcs with hcs _
    subst hcs
    exact ⟨[], ⟨none, 0, rfl, ⟨Nat.le_refl _, fun _ => rfl⟩, fun h => by simp [runeVals] at h⟩, by simp⟩
  · injection hcs with hcs _
    subst hcs
    have hzl : zs.length = c := by simpa using hz
    have htl : (zs.take l).length = l := by rw [List.length_take]; omega
    refine ⟨zs.take l, ⟨some a, c, by rw [runeVals, List.length_map, htl], ⟨by rw [runeVals, List.length_map, htl]; exact hl, fun h => by cases h⟩, fun hp => ?_⟩, ?_⟩
    · rw [runeVals, List.length_map, htl] at hp
      obtain ⟨b, off, rfl, hat⟩ := ints_at hcell (by omega)
      refine ⟨b, off, rfl, block_lt_of_cell (hat 0 (by omega)), fun j u hu => ?_⟩
      have hj : j < l := by
        have := (List.getElem?_eq_some_iff.1 hu).1
        rwa [runeVals, List.length_map, htl] at this
      rw [hat j (by omega), ← hu]
      have hjz : j < zs.length := by omega
      simp [runeVals, hj, hjz]
    · rw [hx] at hw
      have := hw (4 * ((lits IntKind.i32 (zs.take l) (H := H)).length + (lits IntKind.i32 (zs.drop l) (H := H)).length)) (by simp [DataW.weights, Try.underlying30, hby]; first | done | (left; omega) | omega)
      simp only [lits, List.length_map, reachBytes] at this
      rw [htl] at this
      rw [htl]
      omega
theorem runes_of_arg {H : Type} {enc : TypeId × Value → H} {W : World} {a : Option Addr} {len cap : Nat} {d : DataW H} {p : List MemPlace} (h : DataW.Trod enc Try.prog W 0 (fun _ => true) true 30 (.slice a len cap) d p) (hw : ∀ n ∈ d.weights Try.prog 30, n ≤ reachBytes) :
    ∃ c : List Int, Holds1 W (.slice a len cap) (runeVals c) ∧ c.length ≤ 35184372087808 := by
  obtain ⟨fuel, hf⟩ := h
  exact runes_of_trod (x := (d, p)) hf hw
theorem weights_of {H : Type} {P : Program} {ts : List TypeId} {ds : List (DataW H)} (h : (DataW.weightsEach P ts ds).all (· ≤ reachBytes) = true) {j : Nat} {t : TypeId} {d : DataW H} (ht : ts[j]? = some t) (hd : ds[j]? = some d) : ∀ n ∈ d.weights P t, n ≤ reachBytes := fun n hn => by
  simpa using List.all_eq_true.1 h n (DataW.weights_mem_each ht hd n hn)
/-- an operation that came in -/
structure OpB where
  kind : Int
  way : Int
  tv : Value
  text : List Int
  n : Int
  stop : Int
def OpB.cells (o : OpB) : List Value := [.int .i64 o.kind, .int .i64 o.way, o.tv, .int .i64 o.n, .int .i64 o.stop]
abbrev OpB.val (o : OpB) : Value := .agg o.cells.toArray
structure OpOk (W : World) (o : OpB) : Prop where
  t : Holds1 W o.tv (runeVals o.text)
  tl : o.text.length ≤ 35184372087808
  n0 : -9223372036854775808 ≤ o.n ∧ o.n ≤ 9223372036854775807
  s0 : -9223372036854775808 ≤ o.stop ∧ o.stop ≤ 9223372036854775807
theorem OpOk.below {W W' : World} {o : OpB} (h : OpOk W o) (hb : Below W.heap.size W W') : OpOk W' o := ⟨h.t.below hb, h.tl, h.n0, h.s0⟩
set_option maxRecDepth 1000000 in
theorem op_cells {H : Type} {enc : TypeId × Value → H} {W : World} {fuel : Nat} {cs : List Value} {x : DataW H × List MemPlace} (h : DataW.trod enc Try.prog W 0 (fun _ => true) true fuel 32 cs = some x) (hw : ∀ n ∈ x.1.weights Try.prog 32, n ≤ reachBytes) :
    ∃ o : OpB, cs = o.cells ∧ OpOk W o := by
  obtain ⟨xs, n, _, hx, hl, hxl, hall⟩ := DataW.trod_struct Try.underlying32 h
  have c1 : Try.prog.cellsOf 3 = 1 := by kernel_rfl
  have c3 : Try.prog.cellsOf 30 = 1 := by kernel_rfl
  have c5 : Try.prog.cellsOf 32 = 5 := by kernel_rfl
  rw [c5] at hl
  have b0 := hall 0 _ rfl
  have b1 := hall 1 _ rfl
  have b2 := hall 2 _ rfl
  have b3 := hall 3 _ rfl
  have b4 := hall 4 _ rfl
  clear hall
  simp only [List.getElem_toArray, List.getElem_cons_zero, List.getElem_cons_succ] at b0 b1 b2 b3 b4
  rw [c1] at b0 b1 b3 b4
  rw [c3] at b2
  match cs, hl, xs, hxl with
  | [u0, u1, u2, u3, u4], _, [r0, r1, r2, r3, r4], _ =>
    simp at b0 b1 b2 b3 b4
    obtain ⟨z0, e0, _, w0⟩ := DataW.trod_int Try.underlying3 b0
    obtain ⟨z1, e1, _, w1⟩ := DataW.trod_int Try.underlying3 b1
    obtain ⟨z3, e3, _, w3⟩ := DataW.trod_int Try.underlying3 b3
    obtain ⟨z4, e4, _, w4⟩ := DataW.trod_int Try.underlying3 b4
    simp at e0 e1 e3 e4
    subst e0 e1 e3 e4
    have hw2 : ∀ n ∈ r2.1.weights Try.prog 30, n ≤ reachBytes := fun m hm => hw m (by
      rw [hx]
      simp only [DataW.weights, Try.underlying32]
      exact DataW.weights_mem_each (j := 2) (t := 30) (d := r2.1) rfl rfl m hm)
    obtain ⟨ci, hi, hil⟩ := runes_of_trod b2 hw2
    exact ⟨⟨z0, z1, u2, ci, z3, z4⟩, rfl, hi, hil, bounds_i64 w3, bounds_i64 w4⟩
set_option maxRecDepth 1000000 in
theorem op_of_arg {H : Type} {enc : TypeId × Value → H} {W : World} {base : Nat} {v : Value} {d : DataW H} {p : List MemPlace} (hval : Value.okWide Try.prog W .any base 32 v) (h : DataW.Trod enc Try.prog W 0 (fun _ => true) true 32 v d p)
    (hw : ∀ n ∈ d.weights Try.prog 32, n ≤ reachBytes) : ∃ o : OpB, v = o.val ∧ OpOk W o := by
  obtain ⟨cs, rfl, hsz⟩ := okWide_struct Try.underlying32 hval
  obtain ⟨fuel, hf⟩ := h
  obtain ⟨o, hc, h1⟩ := op_cells (x := (d, p)) hf hw
  refine ⟨o, ?_, h1⟩
  have : cs.toList = o.cells := by simpa [Value.cells] using hc
  show Value.agg cs = .agg o.cells.toArray
  rw [← this]
theorem weights_all {H : Type} {P : Program} {e : TypeId} {l : List (DataW H)} {d : DataW H} (hd : d ∈ l) {n : Nat} (hn : n ∈ d.weights P e) : n ∈ DataW.weightsAll P e l := by
  induction l with
  | nil => cases hd
  | cons y r ih =>
    simp only [DataW.weightsAll, List.mem_append]
    rcases List.mem_cons.1 hd with rfl | hd
    · exact .inl hn
    · exact .inr (ih hd)
structure Ops (W : World) (v : Value) (os : List OpB) : Prop where
  len : os.length ≤ 140737488355328
  ops : ∀ o ∈ os, OpOk W o
  cells : ∃ A cap, v = .slice A os.length cap ∧ (0 < os.length → ∃ b off, A = some ⟨b, off, none⟩ ∧ b < W.heap.size ∧ ∀ i o, os[i]? = some o → ∀ j u, o.cells[j]? = some u → W.cell? ⟨b, off + i * 5 + j, none⟩ = some u)

set_option maxRecDepth 1000000 in
theorem ops_of_arg {H : Type} {enc : TypeId × Value → H} {W : World} {a : Option Addr} {len cap : Nat} {d : DataW H} {p : List MemPlace} (h : DataW.Trod enc Try.prog W 0 (fun _ => true) true 22 (.slice a len cap) d p)
    (hw : ∀ n ∈ d.weights Try.prog 22, n ≤ reachBytes) : ∃ os : List OpB, Ops W (.slice a len cap) os := by
  have c7 : Try.prog.cellsOf 32 = 5 := by kernel_rfl
  have hby : Try.prog.bytesOf 32 = 56 := by kernel_rfl
  obtain ⟨fuel, hf⟩ := h
  rcases open_slice Try.underlying22 hf with ⟨hcs, hx⟩ | ⟨x, l, c, m, n, D, Pl, hcs, _, hl, _, hm, hx, hall⟩
  · simp [Value.cells] at hcs
    obtain ⟨rfl, rfl, rfl⟩ := hcs
    exact ⟨[], by simp, (fun o ho => by cases ho), none, 0, rfl, fun h => by simp at h⟩
  · simp [Value.cells] at hcs
    obtain ⟨rfl, e2, e3⟩ := hcs
    subst e2 e3
    simp only [if_true] at hm
    subst hm
    injection hx with hx _
    rw [hx] at hw
    have hwl : ∀ i, i < len → ∀ n ∈ (D i).weights Try.prog 32, n ≤ reachBytes := fun i hi n hn => hw n (by
      simp only [DataW.weights, Try.underlying22]
      exact List.mem_cons_of_mem _ (List.mem_append_left _ (weights_all (List.mem_map_of_mem (List.mem_range.2 hi)) hn)))
    have hlen := hw ((((List.range len).map D).length + ((List.range (m - len)).map fun j => D (len + j)).length) * Try.prog.bytesOf 32) (by simp [DataW.weights, Try.underlying22])
    rw [hby] at hlen
    simp only [List.length_map, List.length_range, reachBytes] at hlen
    rw [c7] at hall
    have each : ∀ i, ∃ o : OpB, i < len → OpOk W o ∧ ∃ cs', W.cells? 0 (x.add (i * 5)) 5 = some cs' ∧ cs' = o.cells := fun i => by
      by_cases hi : i < len
      · obtain ⟨cs', h1, h2⟩ := hall i (by omega)
        obtain ⟨o, ho, hat⟩ := op_cells h2 (hwl i hi)
        exact ⟨o, fun _ => ⟨hat, cs', h1, ho⟩⟩
      · exact ⟨⟨0, 0, .slice none 0 0, [], 0, 0⟩, fun h => absurd h hi⟩
    obtain ⟨f, hfun⟩ := Classical.axiomOfChoice each
    refine ⟨(List.range len).map f, ?_, ?_, ?_⟩
    · rw [List.length_map, List.length_range]
      omega
    · intro o ho
      obtain ⟨i, hi, rfl⟩ := List.mem_map.1 ho
      exact (hfun i (List.mem_range.1 hi)).1
    · refine ⟨some x, m, by rw [List.length_map, List.length_range], fun hp => ?_⟩
      rw [List.length_map, List.length_range] at hp
      obtain ⟨_, cs0, hc0, ho0⟩ := hfun 0 hp
      obtain ⟨_, _, hat0⟩ := World.cells?_some hc0
      have hfirst := hat0 0 (by omega)
      rw [ho0] at hfirst
      obtain ⟨b, off, spot⟩ := x
      have hspot : spot = none := by simpa [Addr.add] using World.cell?_spot hfirst
      subst hspot
      refine ⟨b, off, rfl, block_lt_of_cell hfirst, fun i o ho j u hu => ?_⟩
      rw [List.getElem?_map] at ho
      obtain ⟨i', hi', rfl⟩ := Option.map_eq_some_iff.1 ho
      have hil : i < len := by have := (List.getElem?_eq_some_iff.1 hi').1; rwa [List.length_range] at this
      have hii : i' = i := by rw [List.getElem?_range hil] at hi'; exact (Option.some.inj hi').symm
      subst hii
      obtain ⟨_, cs', hc', ho'⟩ := hfun i' hil
      obtain ⟨_, hcl, hat⟩ := World.cells?_some hc'
      have hj : j < 5 := by have := (List.getElem?_eq_some_iff.1 hu).1; exact this
      have h7 := hat j hj
      rw [ho', hu, Go.WideShapes.add_plain, Go.WideShapes.add_plain] at h7
      exact h7

/-- slices of runes that a slice holds -/
structure Mat (W : World) (v : Value) (ls : List (List Int)) : Prop where
  len : ls.length ≤ 140737488355328
  each : ∀ l ∈ ls, l.length ≤ 35184372087808
  cells : ∃ A cap, v = .slice A ls.length cap ∧ (0 < ls.length → ∃ b off, A = some ⟨b, off, none⟩ ∧ b < W.heap.size ∧ ∀ i l, ls[i]? = some l → ∃ u, W.cell? ⟨b, off + i, none⟩ = some u ∧ Holds1 W u (runeVals l))
theorem Mat.below {W W' : World} {v : Value} {ls : List (List Int)} (h : Mat W v ls) (hb : Below W.heap.size W W') : Mat W' v ls := by
  obtain ⟨h1, h2, A, cap, rfl, h3⟩ := h
  refine ⟨h1, h2, A, cap, rfl, fun hp => ?_⟩
  obtain ⟨b, off, e, hlt, h4⟩ := h3 hp
  refine ⟨b, off, e, Nat.lt_of_lt_of_le hlt hb.size, fun i l hi => ?_⟩
  obtain ⟨u, h5, h6⟩ := h4 i l hi
  exact ⟨u, (hb.cell (p := ⟨b, off + i, none⟩) hlt).trans h5, h6.below hb⟩
theorem Mat.at {W : World} {A : Option Addr} {n c : Nat} {ls : List (List Int)} (h : Mat W (.slice A n c) ls) {i : Nat} {l : List Int} (hi : ls[i]? = some l) : ∃ b off A2 c2, A = some ⟨b, off, none⟩ ∧ b < W.heap.size ∧ W.cell? ⟨b, off + i, none⟩ = some (.slice A2 l.length c2) ∧ Holds1 W (.slice A2 l.length c2) (runeVals l) ∧ l.length ≤ 35184372087808 := by
  obtain ⟨h1, h2, A', cap, e, h3⟩ := h
  injection e with e1 e2 e3
  subst e1
  obtain ⟨b, off, rfl, hlt, h4⟩ := h3 (by have := (List.getElem?_eq_some_iff.1 hi).1; omega)
  obtain ⟨u, h5, h6⟩ := h4 i l hi
  obtain ⟨A2, c2, rfl, _⟩ := id h6
  rw [runeVals_length] at h5 h6
  exact ⟨b, off, A2, c2, rfl, hlt, h5, h6, h2 l (List.mem_of_getElem? hi)⟩
theorem Mat.form {W : World} {v : Value} {ls : List (List Int)} (h : Mat W v ls) : ∃ A c, v = .slice A ls.length c := by
  obtain ⟨_, _, A, cap, e, _⟩ := h
  exact ⟨A, cap, e⟩
set_option maxRecDepth 1000000 in
theorem mat_of_arg {H : Type} {enc : TypeId × Value → H} {W : World} {a : Option Addr} {len cap : Nat} {d : DataW H} {p : List MemPlace} (h : DataW.Trod enc Try.prog W 0 (fun _ => true) true 26 (.slice a len cap) d p)
    (hw : ∀ n ∈ d.weights Try.prog 26, n ≤ reachBytes) : ∃ ls : List (List Int), Mat W (.slice a len cap) ls := by
  have c7 : Try.prog.cellsOf 30 = 1 := by kernel_rfl
  have hby : Try.prog.bytesOf 30 = 24 := by kernel_rfl
  obtain ⟨fuel, hf⟩ := h
  rcases open_slice Try.underlying26 hf with ⟨hcs, hx⟩ | ⟨x, l, c, m, n, D, Pl, hcs, _, hl, _, hm, hx, hall⟩
  · simp [Value.cells] at hcs
    obtain ⟨rfl, rfl, rfl⟩ := hcs
    exact ⟨[], by simp, (fun o ho => by cases ho), none, 0, rfl, fun h => by simp at h⟩
  · simp [Value.cells] at hcs
    obtain ⟨rfl, e2, e3⟩ := hcs
    subst e2 e3
    simp only [if_true] at hm
    subst hm
    injection hx with hx _
    rw [hx] at hw
    have hwl : ∀ i, i < len → ∀ n ∈ (D i).weights Try.prog 30, n ≤ reachBytes := fun i hi n hn => hw n (by
      simp only [DataW.weights, Try.underlying26]
      exact List.mem_cons_of_mem _ (List.mem_append_left _ (weights_all (List.mem_map_of_mem (List.mem_range.2 hi)) hn)))
    have hlen := hw ((((List.range len).map D).length + ((List.range (m - len)).map fun j => D (len + j)).length) * Try.prog.bytesOf 30) (by simp [DataW.weights, Try.underlying26])
    rw [hby] at hlen
    simp only [List.length_map, List.length_range, reachBytes] at hlen
    rw [c7] at hall
    have each : ∀ i, ∃ o : List Int, i < len → o.length ≤ 35184372087808 ∧ ∃ u, W.cell? (x.add i) = some u ∧ Holds1 W u (runeVals o) := fun i => by
      by_cases hi : i < len
      · obtain ⟨cs', h1, h2⟩ := hall i (by omega)
        rw [Nat.mul_one] at h1
        obtain ⟨_, hcl, hat⟩ := World.cells?_some h1
        match cs', hcl with
        | [u], _ =>
          obtain ⟨o, ho, hol⟩ := runes_of_trod h2 (hwl i hi)
          refine ⟨o, fun _ => ⟨hol, u, ?_, ho⟩⟩
          have := hat 0 (by omega)
          rw [show (x.add i).add 0 = x.add i by cases x.add i; simp [Addr.add]] at this
          simpa using this
      · exact ⟨[], fun h => absurd h hi⟩
    obtain ⟨f, hfun⟩ := Classical.axiomOfChoice each
    refine ⟨(List.range len).map f, ?_, ?_, ?_⟩
    · rw [List.length_map, List.length_range]
      omega
    · intro o ho
      obtain ⟨i, hi, rfl⟩ := List.mem_map.1 ho
      exact (hfun i (List.mem_range.1 hi)).1
    · refine ⟨some x, m, by rw [List.length_map, List.length_range], fun hp => ?_⟩
      rw [List.length_map, List.length_range] at hp
      obtain ⟨_, u0, hc0, ho0⟩ := hfun 0 hp
      obtain ⟨b, off, spot⟩ := x
      have hspot : spot = none := by simpa [Addr.add] using World.cell?_spot hc0
      subst hspot
      refine ⟨b, off, rfl, block_lt_of_cell hc0, fun i o ho => ?_⟩
      rw [List.getElem?_map] at ho
      obtain ⟨i', hi', rfl⟩ := Option.map_eq_some_iff.1 ho
      have hil : i < len := by have := (List.getElem?_eq_some_iff.1 hi').1; rwa [List.length_range] at this
      have hii : i' = i := by rw [List.getElem?_range hil] at hi'; exact (Option.some.inj hi').symm
      subst hii
      obtain ⟨_, u, hc, hh⟩ := hfun i' hil
      rw [Go.WideShapes.add_plain] at hc
      exact ⟨u, hc, hh⟩
end Go.Proofs.Ytknekldnipdpeaa
