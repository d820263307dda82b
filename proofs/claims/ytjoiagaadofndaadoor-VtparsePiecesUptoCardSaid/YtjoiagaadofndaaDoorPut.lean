/-
  A decoder's Put, Flush and Pending: what they return and what they leave in the decoder.
-/
import Derived.Test.YtjoiagaadofndaaDoorRunes
import Derived.Test.YtjoiagaadofndaaDoorEqual
import Derived.Lib.AppendZerosOnto
import Derived.Lib.SliceRun
import Derived.Lib.Walk
namespace Go.Proofs.YtjoiagaadofndaaDoor
open Go.RowKit

theorem info_byte : (Tryd.prog.info? 5).map (fun i => (i.zero, i.size, i.bytes)) = some (some (.int .u8 0), 1, 1) := by kernel_rfl

set_option maxRecDepth 1000000 in
theorem grow_any (n : Nat) (w : World) (hn : n ≤ 4000000000) :
    Calls Tryd.prog 74 #[.slice none 0 0, .int .i64 n] w fun e w' => ∃ r, e = .returned r ∧ w'.ownsRow w.heap.size 5 1 r 0 [] ∧ Below w.heap.size w w' := by
  by_cases h0 : n = 0
  · subst h0
    go_enter Tryd.func74, Tryd.ntmps74
    go_wp2
    go_ret
    exact ⟨_, rfl, World.ownsRow_nil _ _ _ _, Below.refl _ _⟩
  · obtain ⟨i0, hi, hz0, hz1, hz2⟩ := info_parts info_byte
    have hrz : ∀ ty, (Builtin.append_ #[22, 3] ty #[.slice none 0 0, .int .i64 (n : Int)]).run Tryd.prog w =
        .ok (.slice (some ⟨w.heap.size, 0, none⟩) (0 + n) (grownCap w (0 + n) 0 5)) (w.drew.alloc (.cells (([] : List Value).toArray ++ Builtin.zeroCells (Value.int .u8 0).cells n ++ Builtin.zeroCells (Value.int .u8 0).cells (grownCap w (0 + n) 0 5 - (0 + n))) 5)) := fun ty =>
      Lib.run_append_grow_zeros w 22 3 ty 5 i0 (.int .u8 0) .i64 .i64 Tryd.underlying22 Tryd.underlying3 hi hz0 none 0 0 [] (run_firstCells_none w.drew i0.size 0 0 0) n (by omega) (by omega) (by omega) (by omega)
        (by rw [hz2]; omega) (by rw [hz2]; exact growslice_fits (by omega) (by omega))
    have hGm := grownCap_le_maxLen w (0 + n) 0 5 (by unfold maxLen; omega)
    have hGn : 0 + n ≤ grownCap w (0 + n) 0 5 := grownCap_ge w _ _ _
    generalize grownCap w (0 + n) 0 5 = G at *
    have hcs : (([] : List Value).toArray ++ Builtin.zeroCells (Value.int .u8 0).cells n ++ Builtin.zeroCells (Value.int .u8 0).cells (G - (0 + n))).size = G := by
      simp [Builtin.zeroCells, Value.cells]
      omega
    generalize ([] : List Value).toArray ++ Builtin.zeroCells (Value.int .u8 0).cells n ++ Builtin.zeroCells (Value.int .u8 0).cells (G - (0 + n)) = cs at *
    have HS := Lib.hid hcs
    have HG := Lib.hid hGm
    clear hcs
    have hG63 : G ≤ 9223372036854775807 := by unfold maxLen at hGm; omega
    go_enter Tryd.func74, Tryd.ntmps74
    go_wp2_with (at_builtin; refine Lib.wpList_append_run _ rfl _ _ _ _ rfl _ _ rfl rfl _ _ (hrz _) ?_)
    all_goals go_ret
    all_goals exact ⟨_, rfl, ⟨rfl, .inr ⟨w.heap.size, G, cs, rfl, Nat.le_refl _, heap_alloc_new w.drew _, Nat.zero_le _, HG.out, by simpa using HS.out, rfl⟩⟩, ((Below.refl _ _).drew).alloc (Nat.le_refl _) _⟩

theorem byteVals_one (s : List UInt8) : ∀ u ∈ byteVals s, u.oneCell' = true := by
  intro u hu
  simp only [byteVals, List.mem_map] at hu
  obtain ⟨b, _, rfl⟩ := hu
  rfl
theorem byteVals_length (s : List UInt8) : (byteVals s).length = s.length := by simp [byteVals]
theorem byteVals_append (s t : List UInt8) : byteVals (s ++ t) = byteVals s ++ byteVals t := by simp [byteVals]
theorem Holds1.len {w : World} {v : Value} {xs : List Value} (h : Holds1 w v xs) : ∃ A c, v = .slice A xs.length c := by
  obtain ⟨A, c, hv, _⟩ := h
  exact ⟨A, c, hv⟩

/-- the first loop of Concat: lengths are added -/
def SumRel (n1 n2 : Nat) (sz i : Value) : Prop :=
  (i = .int .i64 0 ∧ sz = .int .i64 0) ∨ (i = .int .i64 1 ∧ sz = .int .i64 n1) ∨ (i = .int .i64 2 ∧ sz = .int .i64 ((n1 + n2 : Nat) : Int))
/-- the second loop of Concat: bytes are appended -/
def CatRel (s t : List UInt8) (w : World) (r i : Value) (wr : World) : Prop :=
  Below w.heap.size w wr ∧ ((i = .int .i64 0 ∧ wr.ownsRow w.heap.size 5 1 r 0 []) ∨ (i = .int .i64 1 ∧ wr.ownsRow w.heap.size 5 1 r s.length (byteVals s)) ∨
    (i = .int .i64 2 ∧ wr.ownsRow w.heap.size 5 1 r (s.length + t.length) (byteVals s ++ byteVals t)))

set_option maxRecDepth 1000000 in
set_option maxHeartbeats 1000000 in
theorem concat_two (s t : List UInt8) (v1 v2 : Value) (g : Nat) (w : World) (h1 : Holds1 w v1 (byteVals s)) (h2 : Holds1 w v2 (byteVals t)) (hg : g < w.heap.size)
    (c0 : w.cell? ⟨g, 0, none⟩ = some v1) (c1 : w.cell? ⟨g, 1, none⟩ = some v2) (hroom : s.length + t.length ≤ 4000000000) :
    Calls Tryd.prog 57 #[.slice (some ⟨g, 0, none⟩) 2 2] w fun e w' => ∃ r, e = .returned r ∧ w'.ownsRow w.heap.size 5 1 r (s.length + t.length) (byteVals s ++ byteVals t) ∧ Below w.heap.size w w' := by
  obtain ⟨i0, hi, hz0, hz1, hz2⟩ := info_parts info_byte
  obtain ⟨A1, k1, e1⟩ := h1.len
  obtain ⟨A2, k2, e2⟩ := h2.len
  rw [byteVals_length] at e1 e2
  subst e1 e2
  have H1 := Lib.hid h1
  have H2 := Lib.hid h2
  clear h1 h2
  go_enter Tryd.func57, Tryd.ntmps57
  go_wp2
  go_loop [3, 11] (fun sz i => SumRel s.length t.length sz i) (fun _ i => 2 - (intOf i).toNat)
  case atStart => exact .inl ⟨rfl, rfl⟩
  case round =>
    rcases hrel with ⟨rfl, rfl⟩ | ⟨rfl, rfl⟩ | ⟨rfl, rfl⟩
    · go_wp2
      go_round
      case rel => exact .inr (.inl ⟨rfl, rfl⟩)
      case measure => simp [intOf]
    · go_wp2
      go_round
      case rel => exact .inr (.inr ⟨rfl, by go_num⟩)
      case measure => simp [intOf]
    · go_wp2_with fail
      rw [← Int.natCast_add]
      refine (grow_any (s.length + t.length) w hroom).mono ?_
      rintro e w1 ⟨r1, rfl, ho1, hb1⟩
      go_wp2
      go_loopw [6, 27] (fun r i wr => CatRel s t w r i wr) (fun _ i _ => 2 - (intOf i).toNat)
      case atStart => exact ⟨hb1, .inl ⟨rfl, ho1⟩⟩
      case round =>
        obtain ⟨hb, hrel⟩ := hrel
        have d0 : wr.cell? ⟨g, 0, none⟩ = _ := (hb.cell (p := ⟨g, 0, none⟩) hg).trans c0
        have d1 : wr.cell? ⟨g, 1, none⟩ = _ := (hb.cell (p := ⟨g, 1, none⟩) hg).trans c1
        have hsz := hb.size
        have hl1 := byteVals_length s
        have hl2 := byteVals_length t
        have HL1 := Lib.hid hl1
        have HL2 := Lib.hid hl2
        clear hl1 hl2 ho1 hb1 c0 c1
        rcases hrel with ⟨rfl, ho⟩ | ⟨rfl, ho⟩ | ⟨rfl, ho⟩
        · have HO := Lib.hid ho
          clear ho
          go_wp2_with (at_builtin; refine append_holds wr rfl _ _ 22 rfl w.heap.size 5 i0 (.int .u8 0) 1 Tryd.underlying22 hi hz0 hz1 hz2 rfl _ 0 [] rfl (by exact HO.out) _ (byteVals s) (byteVals_one s) rfl (by exact H1.out.below hb) (by rw [HL1.out]; unfold maxLen; omega) (by rw [HL1.out]; omega) hsz ?_; intro v' w2 hown' hb2)
          go_roundw
          case rel => exact ⟨hb.trans hb2, .inr (.inl ⟨rfl, by rw [HL1.out, Nat.zero_add] at hown'; exact hown'⟩)⟩
          case measure => simp [intOf]
        · have HO := Lib.hid ho
          clear ho
          go_wp2_with (at_builtin; refine append_holds wr rfl _ _ 22 rfl w.heap.size 5 i0 (.int .u8 0) 1 Tryd.underlying22 hi hz0 hz1 hz2 rfl _ s.length (byteVals s) rfl (by exact HO.out) _ (byteVals t) (byteVals_one t) rfl (by exact H2.out.below hb) (by rw [HL2.out]; unfold maxLen; omega) (by rw [HL2.out]; omega) hsz ?_; intro v' w2 hown' hb2)
          go_roundw
          case rel => exact ⟨hb.trans hb2, .inr (.inr ⟨rfl, by rw [HL2.out] at hown'; exact hown'⟩)⟩
          case measure => simp [intOf]
        · go_wp2
          go_ret
          exact ⟨_, rfl, ho, hb⟩

end Go.Proofs.YtjoiagaadofndaaDoor
