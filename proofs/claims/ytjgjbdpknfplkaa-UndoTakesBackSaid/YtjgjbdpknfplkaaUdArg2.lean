/-
  How an argument that is a step, a list of steps or a list of edits is opened.
-/
import Derived.Test.YtjgjbdpknfplkaaUdArg
import Derived.Test.YtjgjbdpknfplkaaUdStep
namespace Go.Proofs.Ytjgjbdpknfplkaa
open Go.ChangeShapes Go.WideShapes Go.ChangeAt Go.RowKit Go.ChangeMaps Go.Deep

/-- a step that came in -/
structure StB where
  at' : Int
  many : Int
  iv : Value
  ins : List Int
  beg : Bool
  en : Bool
def StB.st (o : StB) : StepP := ⟨o.at', o.many, o.ins, o.beg, o.en⟩
def StB.cells (o : StB) : List Value := [.int .i64 o.at', .int .i64 o.many, o.iv, .bool o.beg, .bool o.en]
abbrev StB.val (o : StB) : Value := .agg o.cells.toArray
structure StOk (W : World) (o : StB) : Prop where
  i : Holds1 W o.iv (runeVals o.ins)
  il : o.ins.length ≤ 35184372087808
theorem StOk.below {W W' : World} {o : StB} (h : StOk W o) (hb : Below W.heap.size W W') : StOk W' o := ⟨h.i.below hb, h.il⟩
set_option maxRecDepth 1000000 in
theorem st_cells {H : Type} {enc : TypeId × Value → H} {W : World} {fuel : Nat} {cs : List Value} {x : DataW H × List MemPlace} (h : DataW.trod enc Try.prog W 0 (fun _ => true) true fuel 59 cs = some x) (hw : ∀ n ∈ x.1.weights Try.prog 59, n ≤ reachBytes) :
    ∃ o : StB, cs = o.cells ∧ StOk W o := by
  obtain ⟨xs, n, _, hx, hl, hxl, hall⟩ := DataW.trod_struct Try.underlying59 h
  have c1 : Try.prog.cellsOf 3 = 1 := by kernel_rfl
  have c2 : Try.prog.cellsOf 4 = 1 := by kernel_rfl
  have c3 : Try.prog.cellsOf 22 = 1 := by kernel_rfl
  have c5 : Try.prog.cellsOf 59 = 5 := by kernel_rfl
  rw [c5] at hl
  have b0 := hall 0 _ rfl
  have b1 := hall 1 _ rfl
  have b2 := hall 2 _ rfl
  have b3 := hall 3 _ rfl
  have b4 := hall 4 _ rfl
  clear hall
  simp only [List.getElem_toArray, List.getElem_cons_zero, List.getElem_cons_succ] at b0 b1 b2 b3 b4
  rw [c1] at b0 b1
  rw [c3] at b2
  rw [c2] at b3 b4
  match cs, hl, xs, hxl with
  | [u0, u1, u2, u3, u4], _, [r0, r1, r2, r3, r4], _ =>
    simp at b0 b1 b2 b3 b4
    obtain ⟨z0, e0, _, w0⟩ := DataW.trod_int Try.underlying3 b0
    obtain ⟨z1, e1, _, w1⟩ := DataW.trod_int Try.underlying3 b1
    obtain ⟨z3, e3, _⟩ := DataW.trod_bool Try.underlying4 b3
    obtain ⟨z4, e4, _⟩ := DataW.trod_bool Try.underlying4 b4
    simp at e0 e1 e3 e4
    subst e0 e1 e3 e4
    have hw2 : ∀ n ∈ r2.1.weights Try.prog 22, n ≤ reachBytes := fun m hm => hw m (by
      rw [hx]
      simp only [DataW.weights, Try.underlying59]
      exact DataW.weights_mem_each (j := 2) (t := 22) (d := r2.1) rfl rfl m hm)
    obtain ⟨ci, hi, hil⟩ := runes_of_trod b2 hw2
    exact ⟨⟨z0, z1, u2, ci, z3, z4⟩, rfl, hi, hil⟩
set_option maxRecDepth 1000000 in
theorem st_of_arg {H : Type} {enc : TypeId × Value → H} {W : World} {base : Nat} {v : Value} {d : DataW H} {p : List MemPlace} (hval : Value.okWide Try.prog W .any base 59 v) (h : DataW.Trod enc Try.prog W 0 (fun _ => true) true 59 v d p)
    (hw : ∀ n ∈ d.weights Try.prog 59, n ≤ reachBytes) : ∃ o : StB, v = o.val ∧ StOk W o := by
  obtain ⟨cs, rfl, hsz⟩ := okWide_struct Try.underlying59 hval
  obtain ⟨fuel, hf⟩ := h
  obtain ⟨o, hc, h1⟩ := st_cells (x := (d, p)) hf hw
  refine ⟨o, ?_, h1⟩
  have : cs.toList = o.cells := by simpa [Value.cells] using hc
  show Value.agg cs = .agg o.cells.toArray
  rw [← this]
theorem weights_all {H : Type} {P : Program} {e : TypeId} {l : List (DataW H)} {d : DataW H} (hd : d ∈ l) {n : Nat} (hn : n ∈ d.weights P e) : n ∈ DataW.weightsAll P e l := by
  induction l with
  | nil => cases hd
  | cons y r ih =>
    simp only [DataW.weightsAll, List.mem_append]
    rcases List.mem_cons.1 hd with rfl | hd
    · exact .inl hn
    · exact .inr (ih hd)
structure Steps (W : World) (v : Value) (os : List StB) : Prop where
  len : os.length ≤ 140737488355328
  ops : ∀ o ∈ os, StOk W o
  cells : ∃ A cap, v = .slice A os.length cap ∧ (0 < os.length → ∃ b off, A = some ⟨b, off, none⟩ ∧ b < W.heap.size ∧ ∀ i o, os[i]? = some o → ∀ j u, o.cells[j]? = some u → W.cell? ⟨b, off + i * 5 + j, none⟩ = some u)

set_option maxRecDepth 1000000 in
theorem steps_of_arg {H : Type} {enc : TypeId × Value → H} {W : World} {a : Option Addr} {len cap : Nat} {d : DataW H} {p : List MemPlace} (h : DataW.Trod enc Try.prog W 0 (fun _ => true) true 56 (.slice a len cap) d p)
    (hw : ∀ n ∈ d.weights Try.prog 56, n ≤ reachBytes) : ∃ os : List StB, Steps W (.slice a len cap) os := by
  have c7 : Try.prog.cellsOf 59 = 5 := by kernel_rfl
  have hby : Try.prog.bytesOf 59 = 48 := by kernel_rfl
  obtain ⟨fuel, hf⟩ := h
  rcases open_slice Try.underlying56 hf with ⟨hcs, hx⟩ | ⟨x, l, c, m, n, D, Pl, hcs, _, hl, _, hm, hx, hall⟩
  · simp [Value.cells] at hcs
    obtain ⟨rfl, rfl, rfl⟩ := hcs
    exact ⟨[], by simp, (fun o ho => by cases ho), none, 0, rfl, fun h => by simp at h⟩
  · simp [Value.cells] at hcs
    obtain ⟨rfl, e2, e3⟩ := hcs
    subst e2 e3
    simp only [if_true] at hm
    subst hm
    injection hx with hx _
    rw [hx] at hw
    have hwl : ∀ i, i < len → ∀ n ∈ (D i).weights Try.prog 59, n ≤ reachBytes := fun i hi n hn => hw n (by
      simp only [DataW.weights, Try.underlying56]
      exact List.mem_cons_of_mem _ (List.mem_append_left _ (weights_all (List.mem_map_of_mem (List.mem_range.2 hi)) hn)))
    have hlen := hw ((((List.range len).map D).length + ((List.range (m - len)).map fun j => D (len + j)).length) * Try.prog.bytesOf 59) (by simp [DataW.weights, Try.underlying56])
    rw [hby] at hlen
    simp only [List.length_map, List.length_range, reachBytes] at hlen
    rw [c7] at hall
    have each : ∀ i, ∃ o : StB, i < len → StOk W o ∧ ∃ cs', W.cells? 0 (x.add (i * 5)) 5 = some cs' ∧ cs' = o.cells := fun i => by
      by_cases hi : i < len
      · obtain ⟨cs', h1, h2⟩ := hall i (by omega)
        obtain ⟨o, ho, hat⟩ := st_cells h2 (hwl i hi)
        exact ⟨o, fun _ => ⟨hat, cs', h1, ho⟩⟩
      · exact ⟨⟨0, 0, .slice none 0 0, [], false, false⟩, fun h => absurd h hi⟩
    obtain ⟨f, hfun⟩ := Classical.axiomOfChoice each
    refine ⟨(List.range len).map f, ?_, ?_, ?_⟩
    · rw [List.length_map, List.length_range]
      omega
    · intro o ho
      obtain ⟨i, hi, rfl⟩ := List.mem_map.1 ho
      exact (hfun i (List.mem_range.1 hi)).1
    · refine ⟨some x, m, by rw [List.length_map, List.length_range], fun hp => ?_⟩
      rw [List.length_map, List.length_range] at hp
      obtain ⟨_, cs0, hc0, ho0⟩ := hfun 0 hp
      obtain ⟨_, _, hat0⟩ := World.cells?_some hc0
      have hfirst := hat0 0 (by omega)
      rw [ho0] at hfirst
      obtain ⟨b, off, spot⟩ := x
      have hspot : spot = none := by simpa [Addr.add] using World.cell?_spot hfirst
      subst hspot
      refine ⟨b, off, rfl, block_lt_of_cell hfirst, fun i o ho j u hu => ?_⟩
      rw [List.getElem?_map] at ho
      obtain ⟨i', hi', rfl⟩ := Option.map_eq_some_iff.1 ho
      have hil : i < len := by have := (List.getElem?_eq_some_iff.1 hi').1; rwa [List.length_range] at this
      have hii : i' = i := by rw [List.getElem?_range hil] at hi'; exact (Option.some.inj hi').symm
      subst hii
      obtain ⟨_, cs', hc', ho'⟩ := hfun i' hil
      obtain ⟨_, hcl, hat⟩ := World.cells?_some hc'
      have hj : j < 5 := by have := (List.getElem?_eq_some_iff.1 hu).1; exact this
      have h7 := hat j hj
      rw [ho', hu, Go.WideShapes.add_plain, Go.WideShapes.add_plain] at h7
      exact h7

structure EdsB (W : World) (v : Value) (os : List EdB) : Prop where
  len : os.length ≤ 140737488355328
  ops : ∀ o ∈ os, EdBOk W o
  cells : ∃ A cap, v = .slice A os.length cap ∧ (0 < os.length → ∃ b off, A = some ⟨b, off, none⟩ ∧ b < W.heap.size ∧ ∀ i o, os[i]? = some o → ∀ j u, o.cells[j]? = some u → W.cell? ⟨b, off + i * 3 + j, none⟩ = some u)

set_option maxRecDepth 1000000 in
theorem eds_of_arg {H : Type} {enc : TypeId × Value → H} {W : World} {a : Option Addr} {len cap : Nat} {d : DataW H} {p : List MemPlace} (h : DataW.Trod enc Try.prog W 0 (fun _ => true) true 40 (.slice a len cap) d p)
    (hw : ∀ n ∈ d.weights Try.prog 40, n ≤ reachBytes) : ∃ os : List EdB, EdsB W (.slice a len cap) os := by
  have c7 : Try.prog.cellsOf 24 = 3 := by kernel_rfl
  have hby : Try.prog.bytesOf 24 = 56 := by kernel_rfl
  obtain ⟨fuel, hf⟩ := h
  rcases open_slice Try.underlying40 hf with ⟨hcs, hx⟩ | ⟨x, l, c, m, n, D, Pl, hcs, _, hl, _, hm, hx, hall⟩
  · simp [Value.cells] at hcs
    obtain ⟨rfl, rfl, rfl⟩ := hcs
    exact ⟨[], by simp, (fun o ho => by cases ho), none, 0, rfl, fun h => by simp at h⟩
  · simp [Value.cells] at hcs
    obtain ⟨rfl, e2, e3⟩ := hcs
    subst e2 e3
    simp only [if_true] at hm
    subst hm
    injection hx with hx _
    rw [hx] at hw
    have hwl : ∀ i, i < len → ∀ n ∈ (D i).weights Try.prog 24, n ≤ reachBytes := fun i hi n hn => hw n (by
      simp only [DataW.weights, Try.underlying40]
      exact List.mem_cons_of_mem _ (List.mem_append_left _ (weights_all (List.mem_map_of_mem (List.mem_range.2 hi)) hn)))
    have hlen := hw ((((List.range len).map D).length + ((List.range (m - len)).map fun j => D (len + j)).length) * Try.prog.bytesOf 24) (by simp [DataW.weights, Try.underlying40])
    rw [hby] at hlen
    simp only [List.length_map, List.length_range, reachBytes] at hlen
    rw [c7] at hall
    have each : ∀ i, ∃ o : EdB, i < len → EdBOk W o ∧ ∃ cs', W.cells? 0 (x.add (i * 3)) 3 = some cs' ∧ cs' = o.cells := fun i => by
      by_cases hi : i < len
      · obtain ⟨cs', h1, h2⟩ := hall i (by omega)
        obtain ⟨o, ho, hat⟩ := ed_cells h2 (hwl i hi)
        exact ⟨o, fun _ => ⟨hat, cs', h1, ho⟩⟩
      · exact ⟨⟨0, .slice none 0 0, .slice none 0 0, [], []⟩, fun h => absurd h hi⟩
    obtain ⟨f, hfun⟩ := Classical.axiomOfChoice each
    refine ⟨(List.range len).map f, ?_, ?_, ?_⟩
    · rw [List.length_map, List.length_range]
      omega
    · intro o ho
      obtain ⟨i, hi, rfl⟩ := List.mem_map.1 ho
      exact (hfun i (List.mem_range.1 hi)).1
    · refine ⟨some x, m, by rw [List.length_map, List.length_range], fun hp => ?_⟩
      rw [List.length_map, List.length_range] at hp
      obtain ⟨_, cs0, hc0, ho0⟩ := hfun 0 hp
      obtain ⟨_, _, hat0⟩ := World.cells?_some hc0
      have hfirst := hat0 0 (by omega)
      rw [ho0] at hfirst
      obtain ⟨b, off, spot⟩ := x
      have hspot : spot = none := by simpa [Addr.add] using World.cell?_spot hfirst
      subst hspot
      refine ⟨b, off, rfl, block_lt_of_cell hfirst, fun i o ho j u hu => ?_⟩
      rw [List.getElem?_map] at ho
      obtain ⟨i', hi', rfl⟩ := Option.map_eq_some_iff.1 ho
      have hil : i < len := by have := (List.getElem?_eq_some_iff.1 hi').1; rwa [List.length_range] at this
      have hii : i' = i := by rw [List.getElem?_range hil] at hi'; exact (Option.some.inj hi').symm
      subst hii
      obtain ⟨_, cs', hc', ho'⟩ := hfun i' hil
      obtain ⟨_, hcl, hat⟩ := World.cells?_some hc'
      have hj : j < 3 := by have := (List.getElem?_eq_some_iff.1 hu).1; exact this
      have h7 := hat j hj
      rw [ho', hu, Go.WideShapes.add_plain, Go.WideShapes.add_plain] at h7
      exact h7

end Go.Proofs.Ytjgjbdpknfplkaa
