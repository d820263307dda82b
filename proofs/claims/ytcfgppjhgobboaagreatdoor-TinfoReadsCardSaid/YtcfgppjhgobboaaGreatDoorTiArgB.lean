/-
  An argument that is a slice of bytes: what it holds, and the cells in which they lie. No program is walked here, and nothing is assumed.
-/
import Derived.Test.YtcfgppjhgobboaaGreatDoorTiArg
import Derived.Test.YtcfgppjhgobboaaGreatDoorTiRd
namespace Go.Proofs.YtcfgppjhgobboaaGreatDoor
open Go.ChangeShapes Go.WideShapes Go.RowKit Go.ChangeMaps Go.Deep

theorem bytes_of_ints {zs : List Int} (h : ∀ z ∈ zs, (Lit.int .u8 z).wf = true) : ∃ s : List UInt8, s.length = zs.length ∧ zs.map (Value.int .u8) = byteVals s := by
  induction zs with
  | nil => exact ⟨[], rfl, rfl⟩
  | cons z zs ih =>
    obtain ⟨s, hl, hs⟩ := ih fun y hy => h y (List.mem_cons_of_mem _ hy)
    have hz := bounds_u8 (h z List.mem_cons_self)
    refine ⟨UInt8.ofNat z.toNat :: s, by simp [hl], ?_⟩
    have e : ((UInt8.ofNat z.toNat).toNat : Int) = z := by
      rw [UInt8.toNat_ofNat']
      omega
    simp only [List.map_cons, hs, byteVals, e]
/-- a slice of bytes that is read -/
theorem bytesv_of_trod {H : Type} {enc : TypeId × Value → H} {W : World} {fuel : Nat} {v : Value} {x : DataW H × List MemPlace} (hf : DataW.trod enc Tryz.prog W 0 (fun _ => true) true fuel 22 [v] = some x) (hw : ∀ n ∈ x.1.weights Tryz.prog 22, n ≤ reachBytes) :
    ∃ c : List UInt8, BytesV W v c := by
  have hby : Tryz.prog.bytesOf 5 = 1 := by kernel_rfl
  rcases open_ints Tryz.underlying22 Tryz.underlying5 (by kernel_rfl) hf with ⟨hcs, hx⟩ | ⟨a, l, c, zs, hcs, _, hl, hm, hz, hx, hcell, hwz⟩
  · injection hcs with hcs _
    subst hcs
    exact ⟨[], none, 0, rfl, Nat.le_refl _, Nat.zero_le _, rfl, (fun _ => ⟨rfl, rfl⟩), fun h => absurd h (Nat.lt_irrefl _)⟩
  · injection hcs with hcs _
    subst hcs
    have hzl : zs.length = c := by simpa using hz
    have htl : (zs.take l).length = l := by rw [List.length_take]; omega
    obtain ⟨s, hs1, hs2⟩ := bytes_of_ints (zs := zs.take l) fun z hz => hwz z (List.mem_of_mem_take hz)
    have hsl : s.length = l := by rw [hs1, htl]
    refine ⟨s, some a, c, by rw [hsl], by rw [hsl]; exact hl, ?_, by rw [byteVals_length, Nat.mul_one], (fun h => by cases h), fun hp => ?_⟩
    · rw [hx] at hw
      have := hw ((lits IntKind.u8 (zs.take l) (H := H)).length + (lits IntKind.u8 (zs.drop l) (H := H)).length) (by simp [DataW.weights, Tryz.underlying22, hby])
      simp only [lits, List.length_map, reachBytes] at this
      rw [htl] at this
      omega
    · obtain ⟨b, off, rfl, hat⟩ := ints_at hcell (by omega)
      refine ⟨b, off, rfl, block_lt_of_cell (hat 0 (by omega)), fun j u hu => ?_⟩
      have hj : j < l := by
        have := (List.getElem?_eq_some_iff.1 hu).1
        rw [byteVals_length, hsl] at this
        exact this
      rw [← hs2] at hu
      rw [hat j (by omega), ← hu]
      have hjz : j < zs.length := by omega
      simp [hj, hjz]

theorem bytesv_of_arg {H : Type} {enc : TypeId × Value → H} {W : World} {a : Option Addr} {len cap : Nat} {d : DataW H} {p : List MemPlace} (h : DataW.Trod enc Tryz.prog W 0 (fun _ => true) true 22 (.slice a len cap) d p) (hw : ∀ n ∈ d.weights Tryz.prog 22, n ≤ reachBytes) :
    ∃ c : List UInt8, BytesV W (.slice a len cap) c := by
  obtain ⟨fuel, hf⟩ := h
  exact bytesv_of_trod (x := (d, p)) hf hw
end Go.Proofs.YtcfgppjhgobboaaGreatDoor
