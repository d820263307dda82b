/-
  How arguments are opened: slices of lines, of operations, of steps of a walk, of slices of lines.
-/
import Derived.Test.YtojhppcnpjajaaaHlWit
import Derived.ChangeMaps5
import Derived.Deep.Slices
namespace Go.Proofs.Ytojhppcnpjajaaa
open Go.ChangeShapes Go.WideShapes Go.ChangeAt Go.RowKit Go.ChangeMaps Go.Deep

theorem weights_of {H : Type} {P : Program} {ts : List TypeId} {ds : List (DataW H)} (h : (DataW.weightsEach P ts ds).all (· ≤ reachBytes) = true) {j : Nat} {t : TypeId} {d : DataW H} (ht : ts[j]? = some t) (hd : ds[j]? = some d) : ∀ n ∈ d.weights P t, n ≤ reachBytes := fun n hn => by
  simpa using List.all_eq_true.1 h n (DataW.weights_mem_each ht hd n hn)
theorem weights_all {H : Type} {P : Program} {e : TypeId} {l : List (DataW H)} {d : DataW H} (hd : d ∈ l) {n : Nat} (hn : n ∈ d.weights P e) : n ∈ DataW.weightsAll P e l := by
  induction l with
  | nil => cases hd
  | cons y r ih =>
    simp only [DataW.weightsAll, List.mem_append]
    rcases List.mem_cons.1 hd with rfl | hd
    · exact .inl hn
    · exact .inr (ih hd)
/-- a slice whose elements are read one by one -/
structure Rd {X : Type} (W : World) (k : Nat) (Ok : X → List Value → Prop) (v : Value) (l : List X) : Prop where
  cells : ∃ A cap, v = .slice A l.length cap ∧ l.length ≤ cap ∧ (A = none → cap = 0) ∧ (0 < l.length → ∃ b off, A = some ⟨b, off, none⟩ ∧ b < W.heap.size ∧ ∀ i o, l[i]? = some o → ∃ cs, Ok o cs ∧ cs.length = k ∧ ∀ j u, cs[j]? = some u → W.cell? ⟨b, off + i * k + j, none⟩ = some u)
set_option maxRecDepth 1000000 in
theorem rd_of_trod {H : Type} {enc : TypeId × Value → H} {W : World} {t e : TypeId} {k by' : Nat} (ht : Try.prog.underlying t = some (.slice e)) (hk : Try.prog.cellsOf e = k) (hby : Try.prog.bytesOf e = by') (hk0 : 0 < k) (X : Type) [Inhabited X] (Ok : X → List Value → Prop)
    (each : ∀ (fuel : Nat) (cs : List Value) (x : DataW H × List MemPlace), DataW.trod enc Try.prog W 0 (fun _ => true) true fuel e cs = some x → (∀ n ∈ x.1.weights Try.prog e, n ≤ reachBytes) → ∃ o : X, Ok o cs)
    {fuel : Nat} {cs0 : List Value} {x : DataW H × List MemPlace} (hf : DataW.trod enc Try.prog W 0 (fun _ => true) true fuel t cs0 = some x) (hw : ∀ n ∈ x.1.weights Try.prog t, n ≤ reachBytes) :
    ∃ (v : Value) (l : List X), cs0 = [v] ∧ Rd W k Ok v l ∧ l.length * by' ≤ reachBytes := by
  rcases open_slice ht hf with ⟨hcs, hx⟩ | ⟨a, len, c, m, n, D, Pl, hcs, _, hl, _, hm, hx, hall⟩
  · exact ⟨_, [], hcs, ⟨none, 0, rfl, Nat.le_refl _, fun _ => rfl, fun h => by simp at h⟩, by simp⟩
  · simp only [if_true] at hm
    subst hm
    rw [hx] at hw
    have hwl : ∀ i, i < len → ∀ n ∈ (D i).weights Try.prog e, n ≤ reachBytes := fun i hi n hn => hw n (by
      simp only [DataW.weights, ht]
      exact List.mem_cons_of_mem _ (List.mem_append_left _ (weights_all (List.mem_map_of_mem (List.mem_range.2 hi)) hn)))
    have hlen := hw ((((List.range len).map D).length + ((List.range (m - len)).map fun j => D (len + j)).length) * Try.prog.bytesOf e) (by simp [DataW.weights, ht])
    rw [hby] at hlen
    simp only [List.length_map, List.length_range] at hlen
    rw [hk] at hall
    have eachI : ∀ i, ∃ o : X, i < len → ∃ cs', W.cells? 0 (a.add (i * k)) k = some cs' ∧ Ok o cs' := fun i => by
      by_cases hi : i < len
      · obtain ⟨cs', h1, h2⟩ := hall i (by omega)
        obtain ⟨o, ho⟩ := each _ _ _ h2 (hwl i hi)
        exact ⟨o, fun _ => ⟨cs', h1, ho⟩⟩
      · exact ⟨default, fun h => absurd h hi⟩
    obtain ⟨f, hfun⟩ := Classical.axiomOfChoice eachI
    refine ⟨_, (List.range len).map f, hcs, ?_, ?_⟩
    · refine ⟨some a, m, by rw [List.length_map, List.length_range], by rw [List.length_map, List.length_range]; exact hl, (fun h => by cases h), fun hp => ?_⟩
      rw [List.length_map, List.length_range] at hp
      obtain ⟨cs0, hc0, _⟩ := hfun 0 hp
      obtain ⟨_, hcl0, hat0⟩ := World.cells?_some hc0
      have hfirst := hat0 0 hk0
      obtain ⟨b, off, spot⟩ := a
      have hs0 : ∃ u, W.cell? ((⟨b, off, spot⟩ : Addr).add (0 * k) |>.add 0) = some u := ⟨cs0[0]'(by omega), by rw [hfirst]; simp⟩
      obtain ⟨u0, hu0⟩ := hs0
      have hspot : spot = none := by simpa [Addr.add] using World.cell?_spot hu0
      subst hspot
      refine ⟨b, off, rfl, ?_, fun i o ho => ?_⟩
      · rw [Go.WideShapes.add_plain, Go.WideShapes.add_plain] at hu0
        exact block_lt_of_cell hu0
      rw [List.getElem?_map] at ho
      obtain ⟨i', hi', rfl⟩ := Option.map_eq_some_iff.1 ho
      have hil : i < len := by have := (List.getElem?_eq_some_iff.1 hi').1; rwa [List.length_range] at this
      have hii : i' = i := by rw [List.getElem?_range hil] at hi'; exact (Option.some.inj hi').symm
      subst hii
      obtain ⟨cs', hc', ho'⟩ := hfun i' hil
      obtain ⟨_, hcl, hat⟩ := World.cells?_some hc'
      refine ⟨cs', ho', hcl, fun j u hu => ?_⟩
      have hj : j < k := by have := (List.getElem?_eq_some_iff.1 hu).1; omega
      have h7 := hat j hj
      rw [hu, Go.WideShapes.add_plain, Go.WideShapes.add_plain] at h7
      exact h7
    · rw [List.length_map, List.length_range]
      exact Nat.le_trans (Nat.mul_le_mul_right _ (by omega)) hlen
set_option maxRecDepth 1000000 in
/-- a line's cells -/
theorem line_cells {H : Type} {enc : TypeId × Value → H} {W : World} (fuel : Nat) (cs : List Value) (x : DataW H × List MemPlace) (h : DataW.trod enc Try.prog W 0 (fun _ => true) true fuel 69 cs = some x) : ∃ o : HL, cs = hlCells o := by
  obtain ⟨xs, n, _, hx, hl, hxl, hall⟩ := DataW.trod_struct Try.underlying69 h
  have c1 : Try.prog.cellsOf 9 = 1 := by kernel_rfl
  have c2 : Try.prog.cellsOf 2 = 1 := by kernel_rfl
  have c5 : Try.prog.cellsOf 69 = 2 := by kernel_rfl
  rw [c5] at hl
  have b0 := hall 0 _ rfl
  have b1 := hall 1 _ rfl
  clear hall
  simp only [List.getElem_toArray, List.getElem_cons_zero, List.getElem_cons_succ] at b0 b1
  rw [c1] at b0
  rw [c2] at b1
  match cs, hl, xs, hxl with
  | [u0, u1], _, [r0, r1], _ =>
    simp at b0 b1
    obtain ⟨z0, e0, _⟩ := DataW.trod_string Try.underlying9 b0
    obtain ⟨z1, e1, _⟩ := DataW.trod_int Try.underlying2 b1
    simp at e0 e1
    subst e0 e1
    exact ⟨(z0, z1), rfl⟩
theorem hh_of_rd {W : World} {v : Value} {l : List HL} (h : Rd W 2 (fun o cs => cs = hlCells o) v l) : HH W v l := by
  obtain ⟨A, cap, rfl, hc, hn, hp⟩ := h
  refine ⟨A, cap, rfl, hc, hlVals_length l, fun e => ⟨by have := hn e; omega, hn e⟩, fun h0 => ?_⟩
  obtain ⟨b, off, e, hlt, hat⟩ := hp h0
  refine ⟨b, off, e, hlt, fun j u hu => ?_⟩
  have hj : j < l.length * 2 := by have := (List.getElem?_eq_some_iff.1 hu).1; rwa [hlVals_length] at this
  obtain ⟨i, hi2⟩ : ∃ i, j = i * 2 ∨ j = i * 2 + 1 := ⟨j / 2, by omega⟩
  have hil : i < l.length := by omega
  have hi : l[i]? = some l[i] := List.getElem?_eq_getElem hil
  obtain ⟨cs, rfl, _, hcs⟩ := hat _ _ hi
  obtain ⟨h1, h2⟩ := hlVals_at hi
  rcases hi2 with rfl | rfl
  · rw [h1] at hu
    have := hcs 0 (.string l[i].1) rfl
    rw [Nat.add_zero] at this
    rw [← hu]
    exact this
  · rw [h2] at hu
    have := hcs 1 (.int .i64 l[i].2) rfl
    rw [← hu, ← Nat.add_assoc]
    exact this
theorem lines_of_trod {H : Type} {enc : TypeId × Value → H} {W : World} {fuel : Nat} {cs : List Value} {x : DataW H × List MemPlace} (hf : DataW.trod enc Try.prog W 0 (fun _ => true) true fuel 22 cs = some x) (hw : ∀ n ∈ x.1.weights Try.prog 22, n ≤ reachBytes) :
    ∃ (v : Value) (l : List HL), cs = [v] ∧ HH W v l ∧ l.length * 24 ≤ reachBytes := by
  obtain ⟨v, l, h1, h2, h3⟩ := rd_of_trod (k := 2) (by' := 24) Try.underlying22 (by kernel_rfl) (by kernel_rfl) (by decide) HL (fun o cs => cs = hlCells o) (fun fuel cs x h _ => line_cells fuel cs x h) hf hw
  exact ⟨v, l, h1, hh_of_rd h2, h3⟩
theorem lines_of_arg {H : Type} {enc : TypeId × Value → H} {W : World} {a : Option Addr} {len cap : Nat} {d : DataW H} {p : List MemPlace} (h : DataW.Trod enc Try.prog W 0 (fun _ => true) true 22 (.slice a len cap) d p)
    (hw : ∀ n ∈ d.weights Try.prog 22, n ≤ reachBytes) : ∃ l : List HL, HH W (.slice a len cap) l ∧ l.length * 24 ≤ reachBytes := by
  obtain ⟨fuel, hf⟩ := h
  obtain ⟨v', l, h1, h2, h3⟩ := lines_of_trod (x := (d, p)) hf hw
  simp [Value.cells] at h1
  subst h1
  exact ⟨l, h2, h3⟩
/-- an operation that came in -/
structure OpB where
  kind : Int
  lv : Value
  ls : List HL
  i : Int
  n : Int
  text : ByteArray
  back : Bool
  begins : Bool
instance : Inhabited OpB := ⟨⟨0, .slice none 0 0, [], 0, 0, ⟨#[]⟩, false, false⟩⟩
def OpB.cells (o : OpB) : List Value := [.int .i64 o.kind, o.lv, .int .i64 o.i, .int .i64 o.n, .string o.text, .bool o.back, .bool o.begins]
structure OpOk (W : World) (o : OpB) : Prop where
  l : HH W o.lv o.ls
  ll : o.ls.length * 24 ≤ reachBytes
  i0 : -9223372036854775808 ≤ o.i ∧ o.i ≤ 9223372036854775807
  n0 : -9223372036854775808 ≤ o.n ∧ o.n ≤ 9223372036854775807
  t0 : o.text.size ≤ reachBytes
theorem OpOk.below {W W' : World} {o : OpB} (h : OpOk W o) (hb : Below W.heap.size W W') : OpOk W' o := ⟨h.l.below hb, h.ll, h.i0, h.n0, h.t0⟩
set_option maxRecDepth 1000000 in
theorem op_cells {H : Type} {enc : TypeId × Value → H} {W : World} (fuel : Nat) (cs : List Value) (x : DataW H × List MemPlace) (h : DataW.trod enc Try.prog W 0 (fun _ => true) true fuel 35 cs = some x) (hw : ∀ n ∈ x.1.weights Try.prog 35, n ≤ reachBytes) : ∃ o : OpB, cs = o.cells ∧ OpOk W o := by
  obtain ⟨xs, n, _, hx, hl, hxl, hall⟩ := DataW.trod_struct Try.underlying35 h
  have c1 : Try.prog.cellsOf 3 = 1 := by kernel_rfl
  have c2 : Try.prog.cellsOf 22 = 1 := by kernel_rfl
  have c3 : Try.prog.cellsOf 2 = 1 := by kernel_rfl
  have c4 : Try.prog.cellsOf 9 = 1 := by kernel_rfl
  have c6 : Try.prog.cellsOf 4 = 1 := by kernel_rfl
  have c5 : Try.prog.cellsOf 35 = 7 := by kernel_rfl
  rw [c5] at hl
  have b0 := hall 0 _ rfl
  have b1 := hall 1 _ rfl
  have b2 := hall 2 _ rfl
  have b3 := hall 3 _ rfl
  have b4 := hall 4 _ rfl
  have b5 := hall 5 _ rfl
  have b6 := hall 6 _ rfl
  clear hall
  simp only [List.getElem_toArray, List.getElem_cons_zero, List.getElem_cons_succ] at b0 b1 b2 b3 b4 b5 b6
  rw [c1] at b0 b2
  rw [c2] at b1
  rw [c3] at b3
  rw [c4] at b4
  rw [c6] at b5 b6
  match cs, hl, xs, hxl with
  | [u0, u1, u2, u3, u4, u5, u6], _, [r0, r1, r2, r3, r4, r5, r6], _ =>
    simp at b0 b1 b2 b3 b4 b5 b6
    have hwp : ∀ (j : Nat) (t : TypeId) (d : DataW H), ([3, 22, 3, 2, 9, 4, 4] : List TypeId)[j]? = some t → ([r0.1, r1.1, r2.1, r3.1, r4.1, r5.1, r6.1] : List (DataW H))[j]? = some d → ∀ n ∈ d.weights Try.prog t, n ≤ reachBytes := fun j t d ht hd m hm => hw m (by
      rw [hx]
      simp only [DataW.weights, Try.underlying35]
      exact DataW.weights_mem_each (j := j) (t := t) (d := d) ht hd m hm)
    obtain ⟨z0, e0, _, _⟩ := DataW.trod_int Try.underlying3 b0
    obtain ⟨z2, e2, _, w2⟩ := DataW.trod_int Try.underlying3 b2
    obtain ⟨z3, e3, _, w3⟩ := DataW.trod_int Try.underlying2 b3
    obtain ⟨z4, e4, x4, _⟩ := DataW.trod_string Try.underlying9 b4
    obtain ⟨z5, e5, _⟩ := DataW.trod_bool Try.underlying4 b5
    obtain ⟨z6, e6, _⟩ := DataW.trod_bool Try.underlying4 b6
    obtain ⟨v1, l1, e1, h1, h1l⟩ := lines_of_trod b1 (hwp 1 _ _ rfl rfl)
    have h4 := hwp 4 _ _ rfl rfl z4.size (by rw [x4]; simp [DataW.weights]; first | done | trivial)
    simp at e0 e1 e2 e3 e4 e5 e6
    subst e0 e1 e2 e3 e4 e5 e6
    exact ⟨⟨z0, u1, l1, z2, z3, z4, z5, z6⟩, rfl, h1, h1l, bounds_i64 w2, bounds_i64 w3, h4⟩
set_option maxRecDepth 1000000 in
theorem op_of_arg {H : Type} {enc : TypeId × Value → H} {W : World} {base : Nat} {v : Value} {d : DataW H} {p : List MemPlace} (hval : Value.okWide Try.prog W .any base 35 v) (h : DataW.Trod enc Try.prog W 0 (fun _ => true) true 35 v d p)
    (hw : ∀ n ∈ d.weights Try.prog 35, n ≤ reachBytes) : ∃ o : OpB, v = .agg o.cells.toArray ∧ OpOk W o := by
  obtain ⟨cs, rfl, hsz⟩ := okWide_struct Try.underlying35 hval
  obtain ⟨fuel, hf⟩ := h
  obtain ⟨o, hc, h1⟩ := op_cells fuel _ (d, p) hf hw
  refine ⟨o, ?_, h1⟩
  have : cs.toList = o.cells := by simpa [Value.cells] using hc
  rw [← this]
end Go.Proofs.Ytojhppcnpjajaaa
