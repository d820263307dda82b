/-
  What 'files' of the statements returns: the bytes at each path, as texts.
-/
import Derived.Test.YthpkfgjjaieikaaDoorFsTreeW
namespace Go.Proofs.YthpkfgjjaieikaaDoor
open Go.RowKit Go.Shelf Go.Lib Go.Maps Go.Sort
attribute [local go_sem] Oper.semAt_some

/-- a map of texts: each element is the text of its bytes -/
def TextMap (W : World) (bm : Nat) (ms : List Ent) : Prop := W.ownsMap Tryd.prog 9 heldR bm ms.length (toD ms) ∧ ∀ x ∈ ms, x.val = str x.data
theorem run_text_put (w : World) (bm : Nat) (es : List Ent) (x : Ent) (hown : w.ownsMap Tryd.prog 9 heldR bm es.length (toD es)) (hlen : es.length ≤ 1000000) (hk : keyOf Tryd.prog 9 (str x.path) = some (.string x.path)) :
    ∃ w', (Instr.mapUpdate 44 (.map (some bm)) (str x.path) x.val).run Tryd.prog w = .ok () w' ∧ w'.ownsMap Tryd.prog 9 heldR bm (putE x es).length (toD (putE x es)) ∧ w.grownBy w' (some bm) := by
  obtain ⟨w', hrun, r1, r2⟩ := hown.update law Tryd.underlying44 (by unfold maxLen; omega) hk (d := .held x.val) (ps := []) (val := x.val) rfl
  rw [toD_put] at r1
  have := map_tight r1
  rw [toD_size] at this
  exact ⟨w', hrun, this, r2⟩

theorem read_found {es : List Ent} {x : Ent} {s s' : St} {p : List UInt8} (hx : findE es p = some x) (hg : goodP p = true) (hs : startP s true = (0, s')) : readP es s p = (x.data, 0, s') := by
  have h : startP s (goodP p) = (0, s') := by rw [hg]; exact hs
  have hl : lookP es p = 0 := by
    have hi : isP es p = (true, false) := by
      unfold isP
      rw [if_neg (good_ne hg), if_neg (by rw [hg]; simp), hx]
      rfl
    unfold lookP
    rw [hi]
    rfl
  unfold readP
  rw [h, hl, hx]
  rfl
/-- between two rounds: k files have come -/
def FilesI (w : World) (bc bmc : Nat) (esc : List Ent) (c3 c4 bmt : Nat) (C : Int) (k : Nat) (W : World) : Prop :=
  ∃ s ms, FsAt W (fun k => w.heap.size ≤ k ∧ k < c3) bc bmc esc (calm s) ∧ StOk (calm s) ∧ s.calls ≤ C + k ∧ Box W c3 (.pointer (some ⟨bc, 0, none⟩)) 25 ∧ Box W c4 (.map (some bmt)) 44 ∧ TextMap W bmt ms ∧ ms.length ≤ k ∧
    (∀ q, (findE ms q).map (·.data) = if q ∈ (pathsOf esc).take k then (findE esc q).map (·.data) else none) ∧ Below w.heap.size w W
def FilesPost (w : World) (es : List Ent) (e : Ending) (w' : World) : Prop :=
  ∃ bmt ms, e = .returned (.map (some bmt)) ∧ w.heap.size ≤ bmt ∧ TextMap w' bmt ms ∧ (∀ q, (findE ms q).map (·.data) = (findE es q).map (·.data)) ∧ Below w.heap.size w w'

set_option maxRecDepth 100000 in
set_option maxHeartbeats 4000000 in
theorem files_any (w : World) (FP : Nat → Prop) (b bm : Nat) (es : List Ent) (s : St) (h : FsAt w FP b bm es s) (ho : StOk s) (hc : s.calls ≤ 1000000000000000) (hl : es.length ≤ 4096) (hi : Inv es) :
    Calls Tryd.prog 18 #[.pointer (some ⟨b, 0, none⟩)] w (FilesPost w es) := by
  refine (callsIn_wide (n := 8)).1 ?_
  refine callsIn_of_wp_marks Tryd.func18 rfl trivial ?_ rfl
  simp only [Tryd.ntmps18, List.size_toArray, List.length_cons, List.length_nil, Nat.reduceAdd, Nat.reduceSub, Array.replicate_succ, Array.replicate_zero, List.push_toArray, List.append_toArray, List.nil_append, List.cons_append]
  have hdep : Fence.wide.depth.isSome = false := rfl
  have hf0 : Fence.wide.fn 24 := trivial
  have hf1 : Fence.wide.fn 23 := trivial
  have hf8 : Fence.wide.fn 13 := trivial
  have hf9 : Fence.wide.fn 12 := trivial
  have hf13 : Fence.wide.fn 14 := trivial
  have hmm := @run_makeMap_plain Tryd.prog
  have CC := Lib.hid (clone_fs w FP b bm es s h (by omega))
  have HO := Lib.hid ho
  have HC := Lib.hid hc
  have HL := Lib.hid hl
  have HINV := Lib.hid hi
  clear h ho hc hl hi
  gi_wp2_with (first
    | (gi_at_call 24; refine (callsIn_wide.2 CC.out).mono ?_; rintro e w1 ⟨bc, bmc, esc, rfl, hF, hS, hlc, hb⟩; have HF1 := Lib.hid hF.tight; have HS := Lib.hid hS; have HLC := Lib.hid hlc; have HB1 := Lib.hid hb; clear hF hS hlc hb)
    | (gi_at_call 12; refine (callsIn_wide.2 (restart_any _ _ bc bmc esc s (HF1.out.alloc _))).mono ?_; rintro e w3 ⟨rfl, hF, hT⟩; have hbx : Box w3 w1.heap.size (.pointer (some ⟨bc, 0, none⟩)) 25 := (hT.block _ (by simp) (by omega)).trans (World.alloc_heap_new w1 _); have cbx := hbx.cell; have HX3 := Lib.hid hbx; have HF3 := Lib.hid hF; have HB3 := Lib.hid ((HB1.out.alloc HB1.out.size _).trans (hT.below (by have := HB1.out.size; simp; omega) fun _ hk => hk.1)); clear hF hT hbx)
    | (gi_at_call 13; refine (callsIn_wide.2 (setFault_any _ _ bc bmc esc _ 0 0 0 HF3.out)).mono ?_; rintro e w4 ⟨rfl, hF, hT⟩; rw [clear_fault] at hF; have hbx : Box w4 w1.heap.size (.pointer (some ⟨bc, 0, none⟩)) 25 := HX3.out.same (hT.block _ HX3.out.lt (by omega)); have cby := hbx.cell; have hlt14 := hbx.lt; have HX4 := Lib.hid hbx; have HF4 := Lib.hid hF; have HB4 := Lib.hid (HB3.out.trans (hT.below HB3.out.size fun _ hk => hk.1)); clear hF hT hbx)
    | (gi_at_call 14; refine (callsIn_wide.2 (paths_any _ _ bc bmc esc _ ((HF4.out.alloc (.map #[] 0)).alloc _) (Nat.le_trans HLC.out (Nat.le_trans HL.out (by omega))))).mono ?_; rintro e w5 ⟨v5, rfl, hb5, hr5, hB5⟩; have HB5 := Lib.hid hb5; have HR5 := Lib.hid hr5; have HBL5 := Lib.hid hB5; clear hb5 hr5 hB5))
  have hsz : ((w4.alloc (.map #[] 0)).alloc (.cells #[.map (some w4.heap.size)] 44)).heap.size = w4.heap.size + 2 := by simp
  have hle5 : w4.heap.size + 2 < w5.heap.size := by
    have h1 := HB5.out.lt
    rw [hsz] at h1
    exact h1
  have hrow5 := HR5.out
  have hv5 : ∀ j, v5.ownBlock = some j → w4.heap.size + 3 ≤ j ∧ j < w5.heap.size := fun j hj => by
    have := hrow5.lt j hj
    rw [hsz] at this
    omega
  have HV5 := Lib.hid hv5
  rw [hsz] at hrow5
  have hbox5 := HB5.out
  rw [hsz] at hbox5
  have hold : ∀ j, j < w4.heap.size → w5.heap[j]? = w4.heap[j]? := fun j hj => by
    rw [HBL5.out.block j (by rw [hsz]; omega), Below.heap_alloc _ _ _ (by simp; omega), Below.heap_alloc _ _ _ hj]
  have hb45 : Below w4.heap.size w4 w5 := ((((Below.refl _ w4).alloc (Nat.le_refl _) _).alloc (by simp) _)).trans (HBL5.out.mono (by simp; omega))
  have hmap5 : TextMap w5 w4.heap.size [] := by
    refine ⟨map_same (World.ownsMap_made w4 _ _ _) ?_, fun x hx => by cases hx⟩
    rw [HBL5.out.block w4.heap.size (by rw [hsz]; omega), Below.heap_alloc _ _ _ (by simp)]
  have hbx4 : Box w5 (w4.heap.size + 1) (.map (some w4.heap.size)) 44 := by
    show _ = _
    rw [HBL5.out.block _ (by rw [hsz]; omega)]
    have := World.alloc_heap_new (w4.alloc (.map #[] 0)) (.cells #[.map (some w4.heap.size)] 44)
    rwa [show (w4.alloc (.map #[] 0)).heap.size = w4.heap.size + 1 by simp] at this
  have hescl : esc.length ≤ 4096 := Nat.le_trans HLC.out HL.out
  have hit := paths_iter w5 (w4.heap.size + 2) _ v5 (pathsOf esc) (by rw [pathsOf_length]; omega) hbox5 (by rw [pathsOf_length]; exact hrow5)
  have HH5 := Lib.hid (show FilesI w bc bmc esc w1.heap.size (w4.heap.size + 1) w4.heap.size s.calls 0 w5 from
    ⟨s, [], HF4.out.below hb45, calm_ok HO.out, by omega, HX4.out.same (hold _ HX4.out.lt), hbx4, hmap5, Nat.le_refl _, fun q => by simp [findE], HB4.out.trans (hb45.mono HB4.out.size)⟩)
  have HLE := Lib.hid hescl
  have H14 := Lib.hid hlt14
  have HW4 := Lib.hid (show w.heap.size ≤ w4.heap.size from HB4.out.size)
  clear hsz hrow5 hbox5 hv5 hold hb45 hmap5 hbx4 hescl
  refine range_law (gf := 35) (xs := (pathsOf esc).map str) (T := PathsT (w4.heap.size + 2) v5) rfl (enters_of Tryd.func35 (by kernel_rfl) rfl) hit
    (fun k hk => by rcases hk with rfl | hk; exact hle5; exact (HV5.out k hk).2)
    (fun k W => FilesI w bc bmc esc w1.heap.size (w4.heap.size + 1) w4.heap.size s.calls k W) (fun _ _ => False) ?hI (fun _ _ _ h _ => h) HH5.out
    (fun x => { tmps := #[.pointer (some ⟨b, 0, none⟩), undef, .map none, .pointer (some ⟨w1.heap.size, 0, none⟩), .pointer (some ⟨w4.heap.size + 1, 0, none⟩), x, undef, undef, .pointer (some ⟨b, 0, none⟩), .pointer (some ⟨bc, 0, none⟩), .pointer (some ⟨bc, 0, none⟩), .bool false, .pointer (some ⟨bc, 0, none⟩), .int .i64 (restartP s).1, .pointer (some ⟨bc, 0, none⟩), .int .i64 (setP (restartP s).2 0 0 0).1, .map (some w4.heap.size), .pointer (some ⟨bc, 0, none⟩), .func (.func 35) #[] #[.pointer (some ⟨w4.heap.size + 2, 0, none⟩)], x, undef, undef, undef, undef, undef, undef, undef, undef, undef, undef, undef], defers := [] }) ?assign ?body ?done ?stop
  case hI =>
    rintro k W W' ⟨s9, ms, g1, g2, g3, g4, g5, g6, g7, g8, g9⟩ ht
    have hT : ∀ j, (PathsT (w4.heap.size + 2) v5 j ∨ j = w5.heap.size + 1) → w4.heap.size + 2 ≤ j := fun j hj => by
      rcases hj with (rfl | hj) | rfl
      · omega
      · have := HV5.out j hj; omega
      · omega
    have h14 := H14.out
    have h04 := HW4.out
    refine ⟨s9, ms, g1.same fun k hk hF => ht.block k hk fun h => by have := hT _ h; omega, g2, g3, g4.same (ht.block _ g4.lt fun h => by have := hT _ h; omega), g5.same (ht.block _ g5.lt fun h => by have := hT _ h; omega), ⟨map_same g6.1 (ht.block _ g6.1.lt fun h => by have := hT _ h; omega), g6.2⟩, g7, g8, g9.trans (ht.below g9.size fun j hj => by have := hT _ hj; omega)⟩
  case assign =>
    intro l x W K hK
    gi_wp2_with fail
    exact hK
  case stop => exact fun _ _ h => h.elim
  case body =>
    rintro l k x W hx ⟨s9, ms, g1, g2, g3, g4, g5, g6, g7, g8, g9⟩ hlt
    obtain ⟨p, hp, rfl⟩ : ∃ p, (pathsOf esc)[k]? = some p ∧ str p = x := by simpa using hx
    have hfx : ∃ x, findE esc p = some x := by
      have := List.mem_of_getElem? hp
      unfold pathsOf at this
      rw [List.mem_mergeSort, List.mem_map] at this
      obtain ⟨x, hxm, hxp⟩ := this
      have h1 : (findE esc p).isSome = true := by
        rw [findE, List.isSome_find?, List.any_eq_true]
        exact ⟨x, hxm, by simp [hxp]⟩
      exact Option.isSome_iff_exists.1 h1
    obtain ⟨x, hfx⟩ := hfx
    have hgp : goodP p = true := by
      have := HS.out p
      rw [hfx] at this
      obtain ⟨y, hy, _⟩ := Option.map_eq_some_iff.1 this.symm
      obtain ⟨hy1, hy2⟩ := findE_mem hy
      rw [← hy2]
      exact HINV.out.good y hy1
    have hkl : k < (pathsOf esc).length := (List.getElem?_eq_some_iff.1 hp).1
    rw [pathsOf_length] at hkl
    have hle := HLE.out
    have hcl : s9.calls ≤ 4000000000000000000 := by have := HC.out; omega
    have CR := read_any W _ bc bmc esc (calm s9) p g1 g2 hcl
    rw [read_found hfx hgp (calm_start s9)] at CR
    have CR := Lib.hid CR
    have HK := Lib.hid (keyStr p (good_short' hgp))
    have hmore : (pathsOf esc).take (k + 1) = (pathsOf esc).take k ++ [p] := by rw [List.take_add_one, hp]; rfl
    have c3c := g4.cell
    have G1 := Lib.hid g1
    have G2 := Lib.hid g2
    have G3 := Lib.hid g3
    have G4 := Lib.hid g4
    have G5 := Lib.hid g5
    have G6 := Lib.hid g6
    have G7 := Lib.hid g7
    have G8 := Lib.hid g8
    have G9 := Lib.hid g9
    have HM := Lib.hid hmore
    have HFX := Lib.hid hfx
    have HCLX := Lib.hid hcl
    have HKL := Lib.hid hkl
    have h14 := H14.out
    have h04 := HW4.out
    clear hx g1 g2 g3 g4 g5 g6 g7 g8 g9 hp hfx hgp hcl hmore hit hle hkl
    gi_wp2_with (gi_at_call 23; refine (callsIn_wide.2 CR.out).mono ?_; rintro e W1 ⟨v, rfl, hr, hF, hT⟩; have hbb := G1.out.own.2; have hcv := conv_reads (Reads.of_row hr); have hb5' : Box W1 (w4.heap.size + 1) (.map (some w4.heap.size)) 44 := G5.out.same (hT.block _ G5.out.lt (by omega)); have c4c := hb5'.cell; have hb4' : Box W1 w1.heap.size (.pointer (some ⟨bc, 0, none⟩)) 25 := G4.out.same (hT.block _ G4.out.lt (by omega)); have hmp := map_same G6.out.1 (hT.block _ G6.out.1.lt (by omega)); obtain ⟨W2, hrun, hm2, hg2⟩ := run_text_put W1 w4.heap.size ms ⟨p, str x.data, x.data⟩ hmp (by have := G7.out; have := HKL.out; have := HLE.out; omega) HK.out; have HF := Lib.hid hF; have HT := Lib.hid hT; have HB5' := Lib.hid hb5'; have HB4' := Lib.hid hb4'; have HM2 := Lib.hid hm2; have HG2 := Lib.hid hg2; clear hr hF hT hb5' hb4' hmp hm2 hg2 hbb)
    have hT2 : Touch (fun j => j = w4.heap.size) W1 W2 := Touch.of_grown HG2.out fun j hj => by cases hj; rfl
    have hbb := G1.out.own.2
    have hbw := G1.out.own.1
    have hU : Touch (fun j => j = bc ∨ j = w4.heap.size) W W2 := (HT.out.mono fun _ _ h => .inl h).trans (hT2.mono fun _ _ h => .inr h)
    have hTl : ∀ j, (PathsT (w4.heap.size + 2) v5 j ∨ j = w5.heap.size ∨ j = w5.heap.size + 1) → w4.heap.size + 2 ≤ j ∧ j < w5.heap.size + 2 := fun j hj => by
      rcases hj with (rfl | hj) | rfl | rfl
      · omega
      · have := HV5.out j hj; omega
      · omega
      · omega
    refine ⟨Same.of_touch hU fun j hj => ⟨by have := hTl j hj; omega, fun h => by have := hTl j hj; omega⟩, { s9 with calls := s9.calls + 1 }, putE ⟨p, str x.data, x.data⟩ ms, HF.out.same fun j hj hFj => hT2.block j hj fun e => by omega, call_ok (s := calm s9) G2.out HCLX.out, by have := G3.out; show s9.calls + 1 ≤ _; omega,
      HB4'.out.same (hT2.block _ HB4'.out.lt (by omega)), HB5'.out.same (hT2.block _ HB5'.out.lt (by omega)), ⟨HM2.out, fun y hy => ?_⟩, Nat.le_trans (length_putE _ _) (Nat.succ_le_succ G7.out), fun q => ?_, G9.out.trans (hU.below G9.out.size fun j hj => by rcases hj with rfl | rfl; exact hbw; exact h04)⟩
    · rcases mem_putE.1 hy with rfl | ⟨hy, _⟩
      · rfl
      · exact G6.out.2 y hy
    · rw [findE_put, HM.out]
      by_cases hq : q = p
      · subst hq
        simp [HFX.out]
      · rw [if_neg hq, G8.out q]
        simp [hq]
  case done =>
    rintro W ⟨s9, ms, g1, g2, g3, g4, g5, g6, g7, g8, g9⟩ hK
    have htk : (pathsOf esc).take ((pathsOf esc).map str).length = pathsOf esc := by rw [List.length_map]; exact List.take_of_length_le (Nat.le_refl _)
    rw [htk] at g8
    have cc := g5.cell
    have hall : ∀ q, (findE ms q).map (·.data) = (findE es q).map (·.data) := fun q => by
      rw [g8 q, ← HS.out q]
      by_cases hq : q ∈ pathsOf esc
      · rw [if_pos hq]
      · rw [if_neg hq]
        have : findE esc q = none := by
          cases hf : findE esc q with
          | none => rfl
          | some y =>
            exfalso
            apply hq
            unfold pathsOf
            rw [List.mem_mergeSort, List.mem_map]
            exact ⟨y, (findE_mem hf).1, (findE_mem hf).2⟩
        rw [this]
        rfl
    have G6 := Lib.hid g6
    have G9 := Lib.hid g9
    have HALL := Lib.hid hall
    have HK := Lib.hid hK
    clear g1 g2 g3 g4 g5 g6 g7 g8 g9 hK htk hit hall
    gi_wp2_with fail
    refine ⟨by simp, .inl ⟨_, _, rfl, run_takeDeferred HK.out, ?_⟩⟩
    have h04 := HW4.out
    refine ⟨.map (some w4.heap.size), by simp [results, Tryd.results18, go_sem], w4.heap.size, ms, rfl, h04, ⟨map_same G6.out.1 (World.putObj_heap_other (by omega)), G6.out.2⟩, HALL.out, G9.out.trans ((Touch.putObj (T := fun j => j = w5.heap.size) _ _ _ rfl).below G9.out.size fun j hj => by omega)⟩

end Go.Proofs.YthpkfgjjaieikaaDoor
