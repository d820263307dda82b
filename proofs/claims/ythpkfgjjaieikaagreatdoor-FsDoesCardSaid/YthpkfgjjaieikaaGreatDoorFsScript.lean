/-
  A script that came in as an argument: its operations, and the cells in which they lie.
-/
import Derived.Test.YthpkfgjjaieikaaGreatDoorFsOneP
import Derived.SizedLaws
import Derived.ChangeSlices
import Derived.OpenShut
namespace Go.Proofs.YthpkfgjjaieikaaGreatDoor
open Go.ChangeShapes Go.WideShapes Go.ChangeAt Go.RowKit Go.ChangeMaps Go.Deep

theorem bytes_of_ints {zs : List Int} (h : ∀ z ∈ zs, (Lit.int .u8 z).wf = true) : ∃ s : List UInt8, s.length = zs.length ∧ zs.map (Value.int .u8) = byteVals s := by
  induction zs with
  | nil => exact ⟨[], rfl, rfl⟩
  | cons z zs ih =>
    obtain ⟨s, hl, hs⟩ := ih fun y hy => h y (List.mem_cons_of_mem _ hy)
    have hz := bounds_u8 (h z List.mem_cons_self)
    refine ⟨UInt8.ofNat z.toNat :: s, by simp [hl], ?_⟩
    have e : ((UInt8.ofNat z.toNat).toNat : Int) = z := by
      rw [UInt8.toNat_ofNat']
      omega
    simp only [List.map_cons, hs, byteVals, e]
/-- a slice of bytes that is read -/
theorem reads_of_trod {H : Type} {enc : TypeId × Value → H} {W : World} {fuel : Nat} {v : Value} {x : DataW H × List MemPlace} (hf : DataW.trod enc Tryz.prog W 0 (fun _ => true) true fuel 30 [v] = some x) (hw : ∀ n ∈ x.1.weights Tryz.prog 30, n ≤ reachBytes) :
    ∃ c : List UInt8, Reads W v c ∧ c.length ≤ 140737488351232 := by
  have hby : Tryz.prog.bytesOf 5 = 1 := by kernel_rfl
  rcases open_ints Tryz.underlying30 Tryz.underlying5 (by kernel_rfl) hf with ⟨hcs, hx⟩ | ⟨a, l, c, zs, hcs, _, hl, hm, hz, hx, hcell, hwz⟩
  · injection hcs with hcs _
    subst hcs
    exact ⟨[], ⟨none, 0, rfl, Nat.le_refl _, fun _ => rfl, fun h => by simp at h⟩, by simp⟩
  · injection hcs with hcs _
    subst hcs
    have hzl : zs.length = c := by simpa using hz
    have htl : (zs.take l).length = l := by rw [List.length_take]; omega
    obtain ⟨s, hs1, hs2⟩ := bytes_of_ints (zs := zs.take l) fun z hz => hwz z (List.mem_of_mem_take hz)
    have hsl : s.length = l := by rw [hs1, htl]
    refine ⟨s, ⟨some a, c, by rw [hsl], by rw [hsl]; exact hl, (fun h => by cases h), fun hp => ?_⟩, ?_⟩
    · obtain ⟨b, off, rfl, hat⟩ := ints_at hcell (by omega)
      refine ⟨b, off, rfl, block_lt_of_cell (hat 0 (by omega)), fun j u hu => ?_⟩
      have hj : j < l := by
        have := (List.getElem?_eq_some_iff.1 hu).1
        rw [byteVals_length, hsl] at this
        exact this
      rw [← hs2] at hu
      rw [hat j (by omega), ← hu]
      have hjz : j < zs.length := by omega
      simp [hj, hjz]
    · rw [hx] at hw
      have := hw ((lits IntKind.u8 (zs.take l) (H := H)).length + (lits IntKind.u8 (zs.drop l) (H := H)).length) (by simp [DataW.weights, Tryz.underlying30, hby])
      simp only [lits, List.length_map, reachBytes] at this
      rw [htl] at this
      omega

theorem reads_of_arg {H : Type} {enc : TypeId × Value → H} {W : World} {a : Option Addr} {len cap : Nat} {d : DataW H} {p : List MemPlace} (h : DataW.Trod enc Tryz.prog W 0 (fun _ => true) true 30 (.slice a len cap) d p) (hw : ∀ n ∈ d.weights Tryz.prog 30, n ≤ reachBytes) :
    ∃ c : List UInt8, Reads W (.slice a len cap) c ∧ c.length ≤ 140737488351232 := by
  obtain ⟨fuel, hf⟩ := h
  exact reads_of_trod (x := (d, p)) hf hw
theorem weights_of {H : Type} {P : Program} {ts : List TypeId} {ds : List (DataW H)} (h : (DataW.weightsEach P ts ds).all (· ≤ reachBytes) = true) {j : Nat} {t : TypeId} {d : DataW H} (ht : ts[j]? = some t) (hd : ds[j]? = some d) : ∀ n ∈ d.weights P t, n ≤ reachBytes := fun n hn => by
  simpa using List.all_eq_true.1 h n (DataW.weights_mem_each ht hd n hn)

def OpD.cells (o : OpD) : List Value := [.int .i64 o.d, str o.p, str o.q, o.B, .int .i64 o.k, .int .i64 o.i, .int .i64 o.j]
/-- an operation may be walked -/
structure OpAt (W : World) (o : OpD) : Prop where
  reads : Reads W o.B o.c
  small : o.c.length ≤ 140737488351232
  ok : OpOk o
/-- a script in memory -/
structure ScriptAt (W : World) (v : Value) (os : List OpD) : Prop where
  len : os.length ≤ 140737488351232
  ops : ∀ o ∈ os, OpAt W o
  cells : ∃ A cap, v = .slice A os.length cap ∧ (0 < os.length → ∃ b off, A = some ⟨b, off, none⟩ ∧ b < W.heap.size ∧ ∀ i o, os[i]? = some o → ∀ j u, o.cells[j]? = some u → W.cell? ⟨b, off + i * 7 + j, none⟩ = some u)
theorem OpAt.touch {T : Nat → Prop} {W W' : World} {o : OpD} (h : OpAt W o) (ht : Touch T W W') (hT : ∀ k, k < W.heap.size → ¬ T k) : OpAt W' o := by
  refine ⟨?_, h.small, h.ok⟩
  obtain ⟨A, cap, e, h1, h2, h3⟩ := h.reads
  refine ⟨A, cap, e, h1, h2, fun hp => ?_⟩
  obtain ⟨k, off, e2, hk, hc⟩ := h3 hp
  exact ⟨k, off, e2, Nat.lt_of_lt_of_le hk ht.size, fun j u hu => (ht.cell (p := ⟨k, off + j, none⟩) hk (hT k hk)).trans (hc j u hu)⟩
theorem ScriptAt.touch {T : Nat → Prop} {W W' : World} {v : Value} {os : List OpD} (h : ScriptAt W v os) (ht : Touch T W W') (hT : ∀ k, k < W.heap.size → ¬ T k) : ScriptAt W' v os := by
  refine ⟨h.len, fun o ho => (h.ops o ho).touch ht hT, ?_⟩
  obtain ⟨A, cap, e, hc⟩ := h.cells
  refine ⟨A, cap, e, fun hp => ?_⟩
  obtain ⟨b, off, e2, hb, hcell⟩ := hc hp
  exact ⟨b, off, e2, Nat.lt_of_lt_of_le hb ht.size, fun i o ho j u hu => (ht.cell (p := ⟨b, off + i * 7 + j, none⟩) hb (hT b hb)).trans (hcell i o ho j u hu)⟩

theorem weights_all {H : Type} {P : Program} {e : TypeId} {l : List (DataW H)} {d : DataW H} (hd : d ∈ l) {n : Nat} (hn : n ∈ d.weights P e) : n ∈ DataW.weightsAll P e l := by
  induction l with
  | nil => cases hd
  | cons y r ih =>
    simp only [DataW.weightsAll, List.mem_append]
    rcases List.mem_cons.1 hd with rfl | hd
    · exact .inl hn
    · exact .inr (ih hd)

set_option maxRecDepth 1000000 in
/-- one operation out of its cells -/
theorem op_of_cells {H : Type} {enc : TypeId × Value → H} {W : World} {fuel : Nat} {cs : List Value} {x : DataW H × List MemPlace} (h : DataW.trod enc Tryz.prog W 0 (fun _ => true) true fuel 32 cs = some x) (hw : ∀ n ∈ x.1.weights Tryz.prog 32, n ≤ reachBytes) :
    ∃ o : OpD, cs = o.cells ∧ OpAt W o := by
  obtain ⟨x0, x4, x5, x6, s1, s2, B, n, y, rfl, _, _, ⟨w4, w5, w6⟩, hB, rfl⟩ := op_cells h
  obtain ⟨c, hr, hc⟩ := reads_of_trod hB fun m hm => hw m (by
    simp only [DataW.weights, Tryz.underlying32]
    exact DataW.weights_mem_each (j := 3) (t := 30) (d := y.1) rfl rfl m hm)
  exact ⟨⟨x0, s1.data.toList, s2.data.toList, B, c, x4, x5, x6⟩, rfl, hr, hc, (bounds_i64 w4).2, (bounds_i64 w6).2⟩

set_option maxRecDepth 1000000 in
theorem script_of {H : Type} {enc : TypeId × Value → H} {W : World} {a : Option Addr} {len cap : Nat} {d : DataW H} {p : List MemPlace} (h : DataW.Trod enc Tryz.prog W 0 (fun _ => true) true 22 (.slice a len cap) d p)
    (hw : ∀ n ∈ d.weights Tryz.prog 22, n ≤ reachBytes) : ∃ os : List OpD, ScriptAt W (.slice a len cap) os := by
  have c7 : Tryz.prog.cellsOf 32 = 7 := by kernel_rfl
  have hby : Tryz.prog.bytesOf 32 = 88 := by kernel_rfl
  obtain ⟨fuel, hf⟩ := h
  rcases open_slice Tryz.underlying22 hf with ⟨hcs, hx⟩ | ⟨x, l, c, m, n, D, Pl, hcs, _, hl, _, hm, hx, hall⟩
  · simp [Value.cells] at hcs
    obtain ⟨rfl, rfl, rfl⟩ := hcs
    exact ⟨[], by simp, (fun o ho => by cases ho), none, 0, rfl, fun h => by simp at h⟩
  · simp [Value.cells] at hcs
    obtain ⟨rfl, e2, e3⟩ := hcs
    subst e2 e3
    simp only [if_true] at hm
    subst hm
    injection hx with hx _
    rw [hx] at hw
    have hwl : ∀ i, i < len → ∀ n ∈ (D i).weights Tryz.prog 32, n ≤ reachBytes := fun i hi n hn => hw n (by
      simp only [DataW.weights, Tryz.underlying22]
      exact List.mem_cons_of_mem _ (List.mem_append_left _ (weights_all (List.mem_map_of_mem (List.mem_range.2 hi)) hn)))
    have hlen := hw ((((List.range len).map D).length + ((List.range (m - len)).map fun j => D (len + j)).length) * Tryz.prog.bytesOf 32) (by simp [DataW.weights, Tryz.underlying22])
    rw [hby] at hlen
    simp only [List.length_map, List.length_range, reachBytes] at hlen
    rw [c7] at hall
    have each : ∀ i, ∃ o : OpD, i < len → OpAt W o ∧ ∃ cs', W.cells? 0 (x.add (i * 7)) 7 = some cs' ∧ cs' = o.cells := fun i => by
      by_cases hi : i < len
      · obtain ⟨cs', h1, h2⟩ := hall i (by omega)
        obtain ⟨o, ho, hat⟩ := op_of_cells h2 (hwl i hi)
        exact ⟨o, fun _ => ⟨hat, cs', h1, ho⟩⟩
      · exact ⟨⟨0, [], [], .slice none 0 0, [], 0, 0, 0⟩, fun h => absurd h hi⟩
    obtain ⟨f, hfun⟩ := Classical.axiomOfChoice each
    refine ⟨(List.range len).map f, ?_, ?_, ?_⟩
    · rw [List.length_map, List.length_range]
      omega
    · intro o ho
      obtain ⟨i, hi, rfl⟩ := List.mem_map.1 ho
      exact (hfun i (List.mem_range.1 hi)).1
    · refine ⟨some x, m, by rw [List.length_map, List.length_range], fun hp => ?_⟩
      rw [List.length_map, List.length_range] at hp
      obtain ⟨_, cs0, hc0, ho0⟩ := hfun 0 hp
      obtain ⟨_, _, hat0⟩ := World.cells?_some hc0
      have hfirst := hat0 0 (by omega)
      rw [ho0] at hfirst
      obtain ⟨b, off, spot⟩ := x
      have hspot : spot = none := by simpa [Addr.add] using World.cell?_spot hfirst
      subst hspot
      refine ⟨b, off, rfl, block_lt_of_cell hfirst, fun i o ho j u hu => ?_⟩
      rw [List.getElem?_map] at ho
      obtain ⟨i', hi', rfl⟩ := Option.map_eq_some_iff.1 ho
      have hil : i < len := by have := (List.getElem?_eq_some_iff.1 hi').1; rwa [List.length_range] at this
      have hii : i' = i := by rw [List.getElem?_range hil] at hi'; exact (Option.some.inj hi').symm
      subst hii
      obtain ⟨_, cs', hc', ho'⟩ := hfun i' hil
      obtain ⟨_, hcl, hat⟩ := World.cells?_some hc'
      have hj : j < 7 := by have := (List.getElem?_eq_some_iff.1 hu).1; exact this
      have h7 := hat j hj
      rw [ho', hu, Go.WideShapes.add_plain, Go.WideShapes.add_plain] at h7
      exact h7

end Go.Proofs.YthpkfgjjaieikaaGreatDoor
