/-
  How an argument that is a list of operations of a buffer is opened.
-/
import Derived.Test.YtepbhmebidmnbaaDoorBfArg
namespace Go.Proofs.YtepbhmebidmnbaaDoor
open Go.ChangeShapes Go.WideShapes Go.ChangeAt Go.RowKit Go.ChangeMaps Go.Deep

theorem weights_all {H : Type} {P : Program} {e : TypeId} {l : List (DataW H)} {d : DataW H} (hd : d ∈ l) {n : Nat} (hn : n ∈ d.weights P e) : n ∈ DataW.weightsAll P e l := by
  induction l with
  | nil => cases hd
  | cons y r ih =>
    simp only [DataW.weightsAll, List.mem_append]
    rcases List.mem_cons.1 hd with rfl | hd
    · exact .inl hn
    · exact .inr (ih hd)
structure ScriptB (W : World) (v : Value) (os : List OpB) : Prop where
  len : os.length ≤ 140737488355328
  ops : ∀ o ∈ os, OpOk W o
  cells : ∃ A cap, v = .slice A os.length cap ∧ (0 < os.length → ∃ b off, A = some ⟨b, off, none⟩ ∧ b < W.heap.size ∧ ∀ i o, os[i]? = some o → ∀ j u, o.cells[j]? = some u → W.cell? ⟨b, off + i * 7 + j, none⟩ = some u)

set_option maxRecDepth 1000000 in
theorem opsB_of_arg {H : Type} {enc : TypeId × Value → H} {W : World} {a : Option Addr} {len cap : Nat} {d : DataW H} {p : List MemPlace} (h : DataW.Trod enc Tryd.prog W 0 (fun _ => true) true 23 (.slice a len cap) d p)
    (hw : ∀ n ∈ d.weights Tryd.prog 23, n ≤ reachBytes) : ∃ os : List OpB, ScriptB W (.slice a len cap) os := by
  have c7 : Tryd.prog.cellsOf 35 = 7 := by kernel_rfl
  have hby : Tryd.prog.bytesOf 35 = 104 := by kernel_rfl
  obtain ⟨fuel, hf⟩ := h
  rcases open_slice Tryd.underlying23 hf with ⟨hcs, hx⟩ | ⟨x, l, c, m, n, D, Pl, hcs, _, hl, _, hm, hx, hall⟩
  · simp [Value.cells] at hcs
    obtain ⟨rfl, rfl, rfl⟩ := hcs
    exact ⟨[], by simp, (fun o ho => by cases ho), none, 0, rfl, fun h => by simp at h⟩
  · simp [Value.cells] at hcs
    obtain ⟨rfl, e2, e3⟩ := hcs
    subst e2 e3
    simp only [if_true] at hm
    subst hm
    injection hx with hx _
    rw [hx] at hw
    have hwl : ∀ i, i < len → ∀ n ∈ (D i).weights Tryd.prog 35, n ≤ reachBytes := fun i hi n hn => hw n (by
      simp only [DataW.weights, Tryd.underlying23]
      exact List.mem_cons_of_mem _ (List.mem_append_left _ (weights_all (List.mem_map_of_mem (List.mem_range.2 hi)) hn)))
    have hlen := hw ((((List.range len).map D).length + ((List.range (m - len)).map fun j => D (len + j)).length) * Tryd.prog.bytesOf 35) (by simp [DataW.weights, Tryd.underlying23])
    rw [hby] at hlen
    simp only [List.length_map, List.length_range, reachBytes] at hlen
    rw [c7] at hall
    have each : ∀ i, ∃ o : OpB, i < len → OpOk W o ∧ ∃ cs', W.cells? 0 (x.add (i * 7)) 7 = some cs' ∧ cs' = o.cells := fun i => by
      by_cases hi : i < len
      · obtain ⟨cs', h1, h2⟩ := hall i (by omega)
        obtain ⟨o, ho, hat⟩ := opB_cells h2 (hwl i hi)
        exact ⟨o, fun _ => ⟨hat, cs', h1, ho⟩⟩
      · exact ⟨⟨0, 0, 0, .slice none 0 0, 0, .slice none 0 0, .slice none 0 0, [], [], []⟩, fun h => absurd h hi⟩
    obtain ⟨f, hfun⟩ := Classical.axiomOfChoice each
    refine ⟨(List.range len).map f, ?_, ?_, ?_⟩
    · rw [List.length_map, List.length_range]
      omega
    · intro o ho
      obtain ⟨i, hi, rfl⟩ := List.mem_map.1 ho
      exact (hfun i (List.mem_range.1 hi)).1
    · refine ⟨some x, m, by rw [List.length_map, List.length_range], fun hp => ?_⟩
      rw [List.length_map, List.length_range] at hp
      obtain ⟨_, cs0, hc0, ho0⟩ := hfun 0 hp
      obtain ⟨_, _, hat0⟩ := World.cells?_some hc0
      have hfirst := hat0 0 (by omega)
      rw [ho0] at hfirst
      obtain ⟨b, off, spot⟩ := x
      have hspot : spot = none := by simpa [Addr.add] using World.cell?_spot hfirst
      subst hspot
      refine ⟨b, off, rfl, block_lt_of_cell hfirst, fun i o ho j u hu => ?_⟩
      rw [List.getElem?_map] at ho
      obtain ⟨i', hi', rfl⟩ := Option.map_eq_some_iff.1 ho
      have hil : i < len := by have := (List.getElem?_eq_some_iff.1 hi').1; rwa [List.length_range] at this
      have hii : i' = i := by rw [List.getElem?_range hil] at hi'; exact (Option.some.inj hi').symm
      subst hii
      obtain ⟨_, cs', hc', ho'⟩ := hfun i' hil
      obtain ⟨_, hcl, hat⟩ := World.cells?_some hc'
      have hj : j < 7 := by have := (List.getElem?_eq_some_iff.1 hu).1; exact this
      have h7 := hat j hj
      rw [ho', hu, Go.WideShapes.add_plain, Go.WideShapes.add_plain] at h7
      exact h7

end Go.Proofs.YtepbhmebidmnbaaDoor
