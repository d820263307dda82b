/-
  Arguments that are entries, capabilities or settings of them: what they hold, and the cells in which they lie. No program is walked here, and nothing is assumed.
-/
import Derived.Test.YtcfgppjhgobboaaGreatDoorTiRep
import Derived.SizedLaws
import Derived.ChangeSlices
import Derived.ChangeMaps5
import Derived.Deep.Slices
import Derived.OpenShut
namespace Go.Proofs.YtcfgppjhgobboaaGreatDoor
open Go.ChangeShapes Go.WideShapes Go.RowKit Go.ChangeMaps Go.Deep Go.Lib

theorem weights_of {H : Type} {P : Program} {ts : List TypeId} {ds : List (DataW H)} (h : (DataW.weightsEach P ts ds).all (· ≤ reachBytes) = true) {j : Nat} {t : TypeId} {d : DataW H} (ht : ts[j]? = some t) (hd : ds[j]? = some d) : ∀ n ∈ d.weights P t, n ≤ reachBytes := fun n hn => by
  simpa using List.all_eq_true.1 h n (DataW.weights_mem_each ht hd n hn)

section
variable {H : Type} {enc : TypeId × Value → H} {W : World}
set_option maxRecDepth 1000000 in
theorem cap_cells {fuel : Nat} {cs : List Value} {x : DataW H × List MemPlace} (h : DataW.trod enc Tryz.prog W 0 (fun _ => true) true fuel 37 cs = some x) : ∃ c : CapD, cs = capCells c ∧ c.text.length ≤ maxLen := by
  obtain ⟨xs, n, _, hx, hl, hxl, hall⟩ := DataW.trod_struct Tryz.underlying37 h
  have c1 : Tryz.prog.cellsOf 3 = 1 := by kernel_rfl
  have c2 : Tryz.prog.cellsOf 9 = 1 := by kernel_rfl
  have c7 : Tryz.prog.cellsOf 37 = 3 := by kernel_rfl
  rw [c7] at hl
  have a0 := hall 0 _ rfl
  have a1 := hall 1 _ rfl
  have a2 := hall 2 _ rfl
  clear hall
  simp only [List.getElem_toArray, List.getElem_cons_zero, List.getElem_cons_succ] at a0 a1 a2
  rw [c1] at a0 a1
  rw [c2] at a2
  match cs, hl, xs, hxl with
  | [u0, u1, u2], _, [y0, y1, y2], _ =>
    simp at a0 a1 a2
    obtain ⟨z0, e0, f0, w0⟩ := DataW.trod_int Tryz.underlying3 a0
    obtain ⟨z1, e1, f1, w1⟩ := DataW.trod_int Tryz.underlying3 a1
    obtain ⟨z2, e2, f2, w2⟩ := DataW.trod_string Tryz.underlying9 a2
    simp at e0 e1 e2
    subst e0 e1 e2
    exact ⟨⟨z0, z1, z2.data.toList⟩, rfl, by simpa using w2⟩
set_option maxRecDepth 1000000 in
theorem ext_cells {fuel : Nat} {cs : List Value} {x : DataW H × List MemPlace} (h : DataW.trod enc Tryz.prog W 0 (fun _ => true) true fuel 48 cs = some x) : ∃ c : ExtD, cs = extCells c := by
  obtain ⟨xs, n, _, hx, hl, hxl, hall⟩ := DataW.trod_struct Tryz.underlying48 h
  have c1 : Tryz.prog.cellsOf 3 = 1 := by kernel_rfl
  have c2 : Tryz.prog.cellsOf 9 = 1 := by kernel_rfl
  have c3 : Tryz.prog.cellsOf 37 = 3 := by kernel_rfl
  have c7 : Tryz.prog.cellsOf 48 = 5 := by kernel_rfl
  rw [c7] at hl
  have a0 := hall 0 _ rfl
  have a1 := hall 1 _ rfl
  have a2 := hall 2 _ rfl
  clear hall
  simp only [List.getElem_toArray, List.getElem_cons_zero, List.getElem_cons_succ] at a0 a1 a2
  rw [c1] at a0
  rw [c2] at a1
  rw [c3] at a2
  match cs, hl, xs, hxl with
  | [u0, u1, u2, u3, u4], _, [y0, y1, y2], _ =>
    simp at a0 a1 a2
    obtain ⟨z0, e0, f0, w0⟩ := DataW.trod_int Tryz.underlying3 a0
    obtain ⟨z1, e1, f1, w1⟩ := DataW.trod_string Tryz.underlying9 a1
    obtain ⟨c, e2, w2⟩ := cap_cells a2
    simp [capCells] at e0 e1 e2
    obtain ⟨e2, e3, e4⟩ := e2
    subst e0 e1 e2 e3 e4
    exact ⟨⟨z0, z1.data.toList, c⟩, rfl⟩

/-- a slice of structs that is read -/
theorem rows_of_trod {α : Type} (cellsF : α → List Value) (size bytes : Nat) {T E : TypeId} (hT : Tryz.prog.underlying T = some (.slice E)) (hc : Tryz.prog.cellsOf E = size) (hby : Tryz.prog.bytesOf E = bytes) (hpos : 0 < size) (d0 : α) (hlen : ∀ a, (cellsF a).length = size)
    (each : ∀ (fuel : Nat) (cs : List Value) (x : DataW H × List MemPlace), DataW.trod enc Tryz.prog W 0 (fun _ => true) true fuel E cs = some x → ∃ o, cs = cellsF o)
    {fuel : Nat} {v : Value} {x : DataW H × List MemPlace} (hf : DataW.trod enc Tryz.prog W 0 (fun _ => true) true fuel T [v] = some x) (hw : ∀ n ∈ x.1.weights Tryz.prog T, n ≤ reachBytes) :
    ∃ (l : List α) (A : Option Addr) (cap : Nat), v = .slice A l.length cap ∧ l.length ≤ cap ∧ l.length * bytes ≤ 140737488351232 ∧ (A = none → l.length = 0 ∧ cap = 0) ∧
      (0 < l.length → ∃ b off, A = some ⟨b, off, none⟩ ∧ b < W.heap.size ∧ ∀ i o, l[i]? = some o → ∀ j u, (cellsF o)[j]? = some u → W.cell? ⟨b, off + (i * size + j), none⟩ = some u) := by
  rcases open_slice hT hf with ⟨hcs, hx⟩ | ⟨x', l, c, m, n, D, Pl, hcs, _, hl, _, hm, hx, hall⟩
  · simp at hcs
    subst hcs
    exact ⟨[], none, 0, rfl, Nat.le_refl _, by simp, fun _ => ⟨rfl, rfl⟩, fun h => by simp at h⟩
  · simp at hcs
    subst hcs
    simp only [if_true] at hm
    subst hm
    rw [hx] at hw
    have hbig := hw ((((List.range l).map D).length + ((List.range (m - l)).map fun j => D (l + j)).length) * Tryz.prog.bytesOf E) (by simp [DataW.weights, hT])
    rw [hby] at hbig
    simp only [List.length_map, List.length_range, reachBytes] at hbig
    rw [hc] at hall
    have each' : ∀ i, ∃ o : α, i < l → ∃ cs', W.cells? 0 (x'.add (i * size)) size = some cs' ∧ cs' = cellsF o := fun i => by
      by_cases hi : i < l
      · obtain ⟨cs', h1, h2⟩ := hall i (by omega)
        obtain ⟨o, ho⟩ := each _ _ _ h2
        exact ⟨o, fun _ => ⟨cs', h1, ho⟩⟩
      · exact ⟨d0, fun h => absurd h hi⟩
    obtain ⟨f, hfun⟩ := Classical.axiomOfChoice each'
    have hln : ((List.range l).map f).length = l := by rw [List.length_map, List.length_range]
    refine ⟨(List.range l).map f, some x', m, by rw [hln], by rw [hln]; exact hl, ?_, (fun h => by cases h), fun hp => ?_⟩
    · rw [hln]
      exact Nat.le_trans (Nat.mul_le_mul_right _ (by omega)) hbig
    · rw [hln] at hp
      obtain ⟨cs0, hc0, ho0⟩ := hfun 0 hp
      obtain ⟨_, _, hat0⟩ := World.cells?_some hc0
      have hfirst := hat0 0 hpos
      obtain ⟨u0, hu0⟩ : ∃ u, (cellsF (f 0))[0]? = some u := ⟨_, List.getElem?_eq_getElem (by rw [hlen]; exact hpos)⟩
      rw [ho0, hu0] at hfirst
      obtain ⟨b, off, spot⟩ := x'
      have hspot : spot = none := by simpa [Addr.add] using World.cell?_spot hfirst
      subst hspot
      rw [Go.WideShapes.add_plain, Go.WideShapes.add_plain] at hfirst
      refine ⟨b, off, rfl, block_lt_of_cell hfirst, fun i o ho j u hu => ?_⟩
      rw [List.getElem?_map] at ho
      obtain ⟨i', hi', rfl⟩ := Option.map_eq_some_iff.1 ho
      have hil : i < l := by have := (List.getElem?_eq_some_iff.1 hi').1; rwa [List.length_range] at this
      have hii : i' = i := by rw [List.getElem?_range hil] at hi'; exact (Option.some.inj hi').symm
      subst hii
      obtain ⟨cs', hc', ho'⟩ := hfun i' hil
      obtain ⟨_, hcl, hat⟩ := World.cells?_some hc'
      have hj : j < size := by have := (List.getElem?_eq_some_iff.1 hu).1; rwa [hlen] at this
      have h7 := hat j hj
      rw [ho', hu, Go.WideShapes.add_plain, Go.WideShapes.add_plain, Nat.add_assoc] at h7
      exact h7
theorem flat_at {α : Type} (cellsF : α → List Value) (size : Nat) (hlen : ∀ a, (cellsF a).length = size) (l : List α) : ∀ (j : Nat) (u : Value), (l.flatMap cellsF)[j]? = some u → ∃ i o r, l[i]? = some o ∧ (cellsF o)[r]? = some u ∧ j = i * size + r := by
  induction l with
  | nil => intro j u h; simp at h
  | cons x l ih =>
    intro j u h
    rw [List.flatMap_cons] at h
    by_cases hj : j < size
    · rw [List.getElem?_append_left (by rw [hlen]; exact hj)] at h
      exact ⟨0, x, j, rfl, h, by omega⟩
    · rw [List.getElem?_append_right (by rw [hlen]; omega), hlen] at h
      obtain ⟨i, o, r, h1, h2, h3⟩ := ih _ _ h
      exact ⟨i + 1, o, r, by simpa using h1, h2, by rw [Nat.succ_mul]; omega⟩
theorem caps_of_trod {fuel : Nat} {v : Value} {x : DataW H × List MemPlace} (hf : DataW.trod enc Tryz.prog W 0 (fun _ => true) true fuel 23 [v] = some x) (hw : ∀ n ∈ x.1.weights Tryz.prog 23, n ≤ reachBytes) : ∃ l, CapsV W v l := by
  obtain ⟨l, A, cap, rfl, h1, h2, h3, h4⟩ := rows_of_trod capCells 3 32 Tryz.underlying23 (by kernel_rfl) (by kernel_rfl) (by omega) cap0 (fun _ => rfl) (fun _ _ _ h => by obtain ⟨c, e, _⟩ := cap_cells h; exact ⟨c, e⟩) hf hw
  refine ⟨l, A, cap, rfl, h1, by omega, capVals_length l, h3, fun hp => ?_⟩
  obtain ⟨b, off, e, hb, hc⟩ := h4 hp
  refine ⟨b, off, e, hb, fun j u hu => ?_⟩
  obtain ⟨i, o, r, g1, g2, rfl⟩ := flat_at capCells 3 (fun _ => rfl) l j u hu
  exact hc i o g1 r u g2
theorem exts_of_trod {fuel : Nat} {v : Value} {x : DataW H × List MemPlace} (hf : DataW.trod enc Tryz.prog W 0 (fun _ => true) true fuel 24 [v] = some x) (hw : ∀ n ∈ x.1.weights Tryz.prog 24, n ≤ reachBytes) : ∃ l, ExtsV W v l := by
  obtain ⟨l, A, cap, rfl, h1, h2, h3, h4⟩ := rows_of_trod extCells 5 56 Tryz.underlying24 (by kernel_rfl) (by kernel_rfl) (by omega) ⟨0, [], cap0⟩ (fun _ => rfl) (fun _ _ _ h => ext_cells h) hf hw
  refine ⟨l, A, cap, rfl, h1, by omega, extVals_length l, h3, fun hp => ?_⟩
  obtain ⟨b, off, e, hb, hc⟩ := h4 hp
  refine ⟨b, off, e, hb, fun j u hu => ?_⟩
  obtain ⟨i, o, r, g1, g2, rfl⟩ := flat_at extCells 5 (fun _ => rfl) l j u hu
  exact hc i o g1 r u g2

set_option maxRecDepth 1000000 in
/-- an entry that came in as an argument -/
theorem term_of_arg {base : Nat} {v : Value} {d : DataW H} {p : List MemPlace} (hval : Value.okWide Tryz.prog W .any base 26 v) (h : DataW.Trod enc Tryz.prog W 0 (fun _ => true) true 26 v d p) (hw : ∀ n ∈ d.weights Tryz.prog 26, n ≤ reachBytes) :
    ∃ (t : TermD) (u : Nat → Value) (ue : Value), v = termVal t u ue ∧ TermV W u ue t := by
  obtain ⟨cs, rfl, hsz⟩ := okWide_struct Tryz.underlying26 hval
  obtain ⟨fuel, hf⟩ := h
  obtain ⟨xs, n, _, hx, hl, hxl, hall⟩ := DataW.trod_struct Tryz.underlying26 hf
  have c1 : Tryz.prog.cellsOf 4 = 1 := by kernel_rfl
  have c2 : Tryz.prog.cellsOf 9 = 1 := by kernel_rfl
  have c3 : Tryz.prog.cellsOf 23 = 1 := by kernel_rfl
  have c4 : Tryz.prog.cellsOf 24 = 1 := by kernel_rfl
  have c7 : Tryz.prog.cellsOf 26 = 6 := by kernel_rfl
  rw [c7] at hl
  have a0 := hall 0 _ rfl
  have a1 := hall 1 _ rfl
  have a2 := hall 2 _ rfl
  have a3 := hall 3 _ rfl
  have a4 := hall 4 _ rfl
  have a5 := hall 5 _ rfl
  clear hall
  simp only [List.getElem_toArray, List.getElem_cons_zero, List.getElem_cons_succ] at a0 a1 a2 a3 a4 a5
  rw [c2] at a0
  rw [c1] at a1
  rw [c3] at a2 a3 a4
  rw [c4] at a5
  obtain ⟨l⟩ := cs
  simp only [Value.cells] at hl a0 a1 a2 a3 a4 a5
  match l, hl, xs, hxl with
  | [u0, u1, u2, u3, u4, u5], _, [y0, y1, y2, y3, y4, y5], _ =>
    simp at a0 a1 a2 a3 a4 a5
    obtain ⟨z0, e0, f0, w0⟩ := DataW.trod_string Tryz.underlying9 a0
    obtain ⟨z1, e1, f1⟩ := DataW.trod_bool Tryz.underlying4 a1
    simp at e0 e1
    subst e0 e1
    injection hx with hx _
    subst hx
    have hw' : ∀ (j : Nat) (t : TypeId) (y : DataW H), [9, 4, 23, 23, 23, 24][j]? = some t → [y0.1, y1.1, y2.1, y3.1, y4.1, y5.1][j]? = some y → ∀ m ∈ y.weights Tryz.prog t, m ≤ reachBytes := fun j t y ht hy m hm => hw m (by
      simp only [DataW.weights, Tryz.underlying26]
      exact DataW.weights_mem_each (j := j) (t := t) (d := y) ht hy m hm)
    obtain ⟨l2, h2⟩ := caps_of_trod a2 (hw' 2 _ _ rfl rfl)
    obtain ⟨l3, h3⟩ := caps_of_trod a3 (hw' 3 _ _ rfl rfl)
    obtain ⟨l4, h4⟩ := caps_of_trod a4 (hw' 4 _ _ rfl rfl)
    obtain ⟨l5, h5⟩ := exts_of_trod a5 (hw' 5 _ _ rfl rfl)
    exact ⟨⟨z0.data.toList, z1, l2, l3, l4, l5⟩, fun i => if i = 0 then u2 else if i = 1 then u3 else u4, u5, rfl, ⟨fun i hi => by
      match i, hi with
      | 0, _ => exact h2
      | 1, _ => exact h3
      | 2, _ => exact h4, h5⟩⟩
set_option maxRecDepth 1000000 in
theorem cap_of_arg {base : Nat} {v : Value} {d : DataW H} {p : List MemPlace} (hval : Value.okWide Tryz.prog W .any base 37 v) (h : DataW.Trod enc Tryz.prog W 0 (fun _ => true) true 37 v d p) : ∃ c : CapD, v = capVal c := by
  obtain ⟨cs, rfl, hsz⟩ := okWide_struct Tryz.underlying37 hval
  obtain ⟨fuel, hf⟩ := h
  obtain ⟨c, e, _⟩ := cap_cells hf
  refine ⟨c, ?_⟩
  have : cs.toList = capCells c := by simpa [Value.cells] using e
  rw [show cs = cs.toList.toArray from rfl, this]
  rfl
/-- a setting: a name, a capability, another name -/
abbrev setVal (nm : List UInt8) (c : CapD) (ot : List UInt8) : Value := .agg #[str nm, .int .i64 c.st, .int .i64 c.num, str c.text, str ot]
set_option maxRecDepth 1000000 in
theorem setting_of_arg {base : Nat} {v : Value} {d : DataW H} {p : List MemPlace} (hval : Value.okWide Tryz.prog W .any base 39 v) (h : DataW.Trod enc Tryz.prog W 0 (fun _ => true) true 39 v d p) :
    ∃ (nm : List UInt8) (c : CapD) (ot : List UInt8), v = setVal nm c ot := by
  obtain ⟨cs, rfl, hsz⟩ := okWide_struct Tryz.underlying39 hval
  obtain ⟨fuel, hf⟩ := h
  obtain ⟨xs, n, _, hx, hl, hxl, hall⟩ := DataW.trod_struct Tryz.underlying39 hf
  have c2 : Tryz.prog.cellsOf 9 = 1 := by kernel_rfl
  have c3 : Tryz.prog.cellsOf 37 = 3 := by kernel_rfl
  have c7 : Tryz.prog.cellsOf 39 = 5 := by kernel_rfl
  rw [c7] at hl
  have a0 := hall 0 _ rfl
  have a1 := hall 1 _ rfl
  have a2 := hall 2 _ rfl
  clear hall
  simp only [List.getElem_toArray, List.getElem_cons_zero, List.getElem_cons_succ] at a0 a1 a2
  rw [c2] at a0 a2
  rw [c3] at a1
  obtain ⟨l⟩ := cs
  simp only [Value.cells] at hl a0 a1 a2
  match l, hl, xs, hxl with
  | [u0, u1, u2, u3, u4], _, [y0, y1, y2], _ =>
    simp at a0 a1 a2
    obtain ⟨z0, e0, f0, w0⟩ := DataW.trod_string Tryz.underlying9 a0
    obtain ⟨c, e1, w1⟩ := cap_cells a1
    obtain ⟨z2, e2, f2, w2⟩ := DataW.trod_string Tryz.underlying9 a2
    simp [capCells] at e0 e1 e2
    obtain ⟨e1, e3, e4⟩ := e1
    subst e0 e1 e2 e3 e4
    exact ⟨z0.data.toList, c, z2.data.toList, rfl⟩
end

end Go.Proofs.YtcfgppjhgobboaaGreatDoor
