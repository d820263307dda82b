/-
  Arguments that are values of the percent language, or slices of them: what they hold, and the cells in which they lie. No program is walked here, and nothing is assumed.
-/
import Derived.Test.YtgjebakjjgjojaaGreatDoorTpVarsW
import Derived.SizedLaws
import Derived.ChangeSlices
import Derived.ChangeMaps5
import Derived.Deep.Slices
import Derived.OpenShut
namespace Go.Proofs.YtgjebakjjgjojaaGreatDoor
open Go.ChangeShapes Go.WideShapes Go.RowKit Go.ChangeMaps Go.Deep Go.Lib

theorem weights_of {H : Type} {P : Program} {ts : List TypeId} {ds : List (DataW H)} (h : (DataW.weightsEach P ts ds).all (· ≤ reachBytes) = true) {j : Nat} {t : TypeId} {d : DataW H} (ht : ts[j]? = some t) (hd : ds[j]? = some d) : ∀ n ∈ d.weights P t, n ≤ reachBytes := fun n hn => by
  simpa using List.all_eq_true.1 h n (DataW.weights_mem_each ht hd n hn)

section
variable {H : Type} {enc : TypeId × Value → H} {W : World}
set_option maxRecDepth 1000000 in
theorem prm_cells {fuel : Nat} {cs : List Value} {x : DataW H × List MemPlace} (h : DataW.trod enc Tryz.prog W 0 (fun _ => true) true fuel 24 cs = some x) : ∃ c : PrmD, cs = prmCells c := by
  obtain ⟨xs, n, _, hx, hl, hxl, hall⟩ := DataW.trod_struct Tryz.underlying24 h
  have c1 : Tryz.prog.cellsOf 21 = 1 := by kernel_rfl
  have c2 : Tryz.prog.cellsOf 9 = 1 := by kernel_rfl
  have c3 : Tryz.prog.cellsOf 4 = 1 := by kernel_rfl
  have c7 : Tryz.prog.cellsOf 24 = 3 := by kernel_rfl
  rw [c7] at hl
  have a0 := hall 0 _ rfl
  have a1 := hall 1 _ rfl
  have a2 := hall 2 _ rfl
  clear hall
  simp only [List.getElem_toArray, List.getElem_cons_zero, List.getElem_cons_succ] at a0 a1 a2
  rw [c1] at a0
  rw [c2] at a1
  rw [c3] at a2
  match cs, hl, xs, hxl with
  | [u0, u1, u2], _, [y0, y1, y2], _ =>
    simp at a0 a1 a2
    obtain ⟨z0, e0, f0, w0⟩ := DataW.trod_int Tryz.underlying21 a0
    obtain ⟨z1, e1, f1, w1⟩ := DataW.trod_string Tryz.underlying9 a1
    obtain ⟨z2, e2, f2⟩ := DataW.trod_bool Tryz.underlying4 a2
    simp at e0 e1 e2
    subst e0 e1 e2
    exact ⟨⟨z0, z1.data.toList, z2⟩, rfl⟩

/-- a slice of structs that is read -/
theorem rows_of_trod {α : Type} (cellsF : α → List Value) (size bytes : Nat) {T E : TypeId} (hT : Tryz.prog.underlying T = some (.slice E)) (hc : Tryz.prog.cellsOf E = size) (hby : Tryz.prog.bytesOf E = bytes) (hpos : 0 < size) (d0 : α) (hlen : ∀ a, (cellsF a).length = size)
    (each : ∀ (fuel : Nat) (cs : List Value) (x : DataW H × List MemPlace), DataW.trod enc Tryz.prog W 0 (fun _ => true) true fuel E cs = some x → ∃ o, cs = cellsF o)
    {fuel : Nat} {v : Value} {x : DataW H × List MemPlace} (hf : DataW.trod enc Tryz.prog W 0 (fun _ => true) true fuel T [v] = some x) (hw : ∀ n ∈ x.1.weights Tryz.prog T, n ≤ reachBytes) :
    ∃ (l : List α) (A : Option Addr) (cap : Nat), v = .slice A l.length cap ∧ l.length ≤ cap ∧ l.length * bytes ≤ 140737488351232 ∧ (A = none → l.length = 0 ∧ cap = 0) ∧
      (0 < l.length → ∃ b off, A = some ⟨b, off, none⟩ ∧ b < W.heap.size ∧ ∀ i o, l[i]? = some o → ∀ j u, (cellsF o)[j]? = some u → W.cell? ⟨b, off + (i * size + j), none⟩ = some u) := by
  rcases open_slice hT hf with ⟨hcs, hx⟩ | ⟨x', l, c, m, n, D, Pl, hcs, _, hl, _, hm, hx, hall⟩
  · simp at hcs
    subst hcs
    exact ⟨[], none, 0, rfl, Nat.le_refl _, by simp, fun _ => ⟨rfl, rfl⟩, fun h => by simp at h⟩
  · simp at hcs
    subst hcs
    simp only [if_true] at hm
    subst hm
    rw [hx] at hw
    have hbig := hw ((((List.range l).map D).length + ((List.range (m - l)).map fun j => D (l + j)).length) * Tryz.prog.bytesOf E) (by simp [DataW.weights, hT])
    rw [hby] at hbig
    simp only [List.length_map, List.length_range, reachBytes] at hbig
    rw [hc] at hall
    have each' : ∀ i, ∃ o : α, i < l → ∃ cs', W.cells? 0 (x'.add (i * size)) size = some cs' ∧ cs' = cellsF o := fun i => by
      by_cases hi : i < l
      · obtain ⟨cs', h1, h2⟩ := hall i (by omega)
        obtain ⟨o, ho⟩ := each _ _ _ h2
        exact ⟨o, fun _ => ⟨cs', h1, ho⟩⟩
      · exact ⟨d0, fun h => absurd h hi⟩
    obtain ⟨f, hfun⟩ := Classical.axiomOfChoice each'
    have hln : ((List.range l).map f).length = l := by rw [List.length_map, List.length_range]
    refine ⟨(List.range l).map f, some x', m, by rw [hln], by rw [hln]; exact hl, ?_, (fun h => by cases h), fun hp => ?_⟩
    · rw [hln]
      exact Nat.le_trans (Nat.mul_le_mul_right _ (by omega)) hbig
    · rw [hln] at hp
      obtain ⟨cs0, hc0, ho0⟩ := hfun 0 hp
      obtain ⟨_, _, hat0⟩ := World.cells?_some hc0
      have hfirst := hat0 0 hpos
      obtain ⟨u0, hu0⟩ : ∃ u, (cellsF (f 0))[0]? = some u := ⟨_, List.getElem?_eq_getElem (by rw [hlen]; exact hpos)⟩
      rw [ho0, hu0] at hfirst
      obtain ⟨b, off, spot⟩ := x'
      have hspot : spot = none := by simpa [Addr.add] using World.cell?_spot hfirst
      subst hspot
      rw [Go.WideShapes.add_plain, Go.WideShapes.add_plain] at hfirst
      refine ⟨b, off, rfl, block_lt_of_cell hfirst, fun i o ho j u hu => ?_⟩
      rw [List.getElem?_map] at ho
      obtain ⟨i', hi', rfl⟩ := Option.map_eq_some_iff.1 ho
      have hil : i < l := by have := (List.getElem?_eq_some_iff.1 hi').1; rwa [List.length_range] at this
      have hii : i' = i := by rw [List.getElem?_range hil] at hi'; exact (Option.some.inj hi').symm
      subst hii
      obtain ⟨cs', hc', ho'⟩ := hfun i' hil
      obtain ⟨_, hcl, hat⟩ := World.cells?_some hc'
      have hj : j < size := by have := (List.getElem?_eq_some_iff.1 hu).1; rwa [hlen] at this
      have h7 := hat j hj
      rw [ho', hu, Go.WideShapes.add_plain, Go.WideShapes.add_plain, Nat.add_assoc] at h7
      exact h7
set_option maxRecDepth 1000000 in
theorem prm_of_arg {base : Nat} {v : Value} {d : DataW H} {p : List MemPlace} (hval : Value.okWide Tryz.prog W .any base 24 v) (h : DataW.Trod enc Tryz.prog W 0 (fun _ => true) true 24 v d p) : ∃ c : PrmD, v = prmVal c := by
  obtain ⟨cs, rfl, hsz⟩ := okWide_struct Tryz.underlying24 hval
  obtain ⟨fuel, hf⟩ := h
  obtain ⟨c, e⟩ := prm_cells hf
  refine ⟨c, ?_⟩
  have : cs.toList = prmCells c := by simpa [Value.cells] using e
  rw [show cs = cs.toList.toArray from rfl, this]
  rfl
set_option maxRecDepth 1000000 in
theorem prms_of_arg {base : Nat} {v : Value} {d : DataW H} {p : List MemPlace} (hval : Value.okWide Tryz.prog W .any base 22 v) (h : DataW.Trod enc Tryz.prog W 0 (fun _ => true) true 22 v d p) (hw : ∀ n ∈ d.weights Tryz.prog 22, n ≤ reachBytes) : ∃ (l : List PrmD) (A : Option Addr) (cap : Nat), v = .slice A l.length cap ∧ ArgP W A cap l := by
  obtain ⟨a, len, cap0, rfl⟩ := okWide_slice Tryz.underlying22 hval
  obtain ⟨fuel, hf⟩ := h
  obtain ⟨l, A, cap, e, h1, h2, h3, h4⟩ := rows_of_trod prmCells 3 32 Tryz.underlying22 (by kernel_rfl) (by kernel_rfl) (by omega) prm0 (fun _ => rfl) (fun _ _ _ h => prm_cells h) (x := (d, p)) hf hw
  exact ⟨l, A, cap, e, ⟨h1, by omega, fun hp => by obtain ⟨b, off, e, hb, hc⟩ := h4 hp; exact ⟨b, off, e, hb, hc⟩⟩⟩
end
theorem vars_walk_int (w : World) (A : Option Addr) (cap : Nat) (l : List PrmD) (h : ArgP w A cap l) (x : Int) (hx : 0 ≤ x ∧ x ≤ 255) (p : PrmD) (hp : Pow w) :
    Calls Tryz.prog 3 #[.slice A l.length cap, .int .u8 x, prmVal p] w fun e w' => e = .returned (.bool true) ∧ Below w.heap.size w w' := by
  obtain ⟨c, rfl⟩ : ∃ c : UInt8, (c.toNat : Int) = x := ⟨UInt8.ofNat x.toNat, by simp only [UInt8.toNat_ofNat']; omega⟩
  exact vars_walk w A cap l h c p hp
end Go.Proofs.YtgjebakjjgjojaaGreatDoor
