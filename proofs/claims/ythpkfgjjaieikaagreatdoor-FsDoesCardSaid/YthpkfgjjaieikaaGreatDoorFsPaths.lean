/-
  What Paths of package simfs returns, for every file system, and what its iterator gives.
-/
import Derived.Test.YthpkfgjjaieikaaGreatDoorFsPut2
import Derived.Sort.OwnSorted
namespace Go.Proofs.YthpkfgjjaieikaaGreatDoor
open Go.RowKit Go.Shelf Go.Lib Go.Maps Go.Sort
attribute [local go_sem] Oper.semAt_some

theorem keys_any (mb : Option Nat) (w : World) :
    Calls Tryz.prog 113 #[.map mb] w fun e w' => e = .returned (.func (.func 170) #[] #[.pointer (some ⟨w.heap.size, 0, none⟩)]) ∧ w' = w.alloc (.cells #[.map mb] 68) :=
  (callsIn_wide (n := 5)).1 (AnyZ.keys_in Tryz.layKeys Fence.wide 5 trivial rfl mb w)

theorem sorts (m : Nat) : AnyZ.SortsIn Tryz.prog Tryz.laySorted_ren Fence.wide m :=
  ⟨fun blk off cap ss W hH hblk hsz => callsIn_wide.2 (AnyM.slices_Sort_string Tryz.laySort blk off cap ss W hH hblk hsz), fun p cap W => callsIn_wide.2 (AnyM.slices_Sort_string_none Tryz.laySort p cap W)⟩

/-- the paths of the files -/
def pathsOf (es : List Ent) : List (List UInt8) := (es.map fun x => x.path).mergeSort fun x y => decide (x ≤ y)
theorem strKeys_toD (es : List Ent) : strKeys (toD es) = es.map fun x => x.path := by
  simp only [strKeys, toD, toL, List.map_map]
  rfl

set_option maxHeartbeats 1000000 in
theorem sorted_any (w : World) (bm : Nat) (es : List Ent) (h : w.ownsMap Tryz.prog 9 heldR bm es.length (toD es)) (hl : es.length ≤ 1000000) :
    Calls Tryz.prog 112 #[.func (.func 170) #[] #[.pointer (some ⟨w.heap.size, 0, none⟩)]] (w.alloc (.cells #[.map (some bm)] 68)) fun e w' =>
      ∃ v, e = .returned v ∧ w'.ownsRow w.heap.size 9 1 v es.length ((pathsOf es).map str) ∧ Below w.heap.size w w' := by
  have hseq : SeqGives Fence.wide 2 Tryz.prog 170 #[.pointer (some ⟨w.heap.size, 0, none⟩)] encStr (fun ss => ss.Perm (strKeys (toD es))) (Maps.size (toD es)) (w.alloc (.cells #[.map (some bm)] 68)) :=
    AnyZ.keys_gives (ρ := Tryz.layKeys_ren) { Tryz.layKeys with } Fence.wide _ trivial rfl (by omega) w.heap.size bm es.length (toD es) _ (by simp) (by simp) (map_same h (Below.heap_alloc _ _ bm h.lt))
  have hs : Maps.size (toD es) ≤ 1000000 := by rw [toD_size]; exact hl
  have := AnyZ.sorted_in Tryz.laySorted Fence.wide 5 trivial trivial trivial trivial rfl (by omega) (sorts _) (enters_of Tryz.func169 (by kernel_rfl) rfl) 170 #[.pointer (some ⟨w.heap.size, 0, none⟩)] trivial (enters_of Tryz.func170 (by kernel_rfl) rfl) _ _ (Nat.le_trans hs (by unfold maxLen; omega)) (by omega) _ hseq
  refine ((callsIn_wide (n := 5)).1 this).mono ?_
  rintro e w' ⟨v, ss, rfl, hp, hrow, _, hb⟩
  refine ⟨v, rfl, ?_, ((Below.refl _ w).alloc (Nat.le_refl _) _).trans (hb.mono (by simp))⟩
  rw [strKeys_toD] at hp
  have hlen : ss.length = es.length := by simpa using hp.length_eq
  rw [hlen] at hrow
  have e1 : ss.mergeSort (fun x y => decide (x ≤ y)) = pathsOf es := mergeSort_of_perm hp
  rw [e1] at hrow
  exact own_base hrow (by simp)

set_option maxRecDepth 100000 in
theorem paths_any (w : World) (FP : Nat → Prop) (b bm : Nat) (es : List Ent) (s : St) (h : FsAt w FP b bm es s) (hl : es.length ≤ 1000000) :
    Calls Tryz.prog 52 #[.pointer (some ⟨b, 0, none⟩)] w fun e w' =>
      ∃ v, e = .returned (.func (.func 114) #[] #[.pointer (some ⟨w.heap.size, 0, none⟩)]) ∧ Box w' w.heap.size v 80 ∧ w'.ownsRow (w.heap.size + 1) 9 1 v es.length ((pathsOf es).map str) ∧ Below w.heap.size w w' := by
  have c0 := h.cell0
  have hlt := h.lt
  have CU := Lib.hid (fun (W : World) (hW : W.cell? ⟨b, 0, none⟩ = some (.map (some bm))) => usable_some W b bm hW)
  have hB0 : Below w.heap.size w (w.alloc (.cells #[.slice none 0 0] 80)) := (Below.refl _ _).alloc (Nat.le_refl _) _
  have HB0 := Lib.hid hB0
  have CS1 := sorted_any (w.alloc (.cells #[.slice none 0 0] 80)) bm es (h.below hB0).files.map hl
  simp only [World.size_alloc] at CS1
  have CS := Lib.hid CS1
  clear h hl hB0 CS1
  go_enter Tryz.func52, Tryz.ntmps52
  go_wp2_with (first
    | (go_at_call 50; refine (CU.out _ (by go_simp)).mono ?_; rintro e w' ⟨rfl, rfl⟩)
    | (go_at_call 113; refine (keys_any _ _).mono ?_; rintro e w' ⟨rfl, rfl⟩)
    | (go_at_call 112; (with_reducible refine (CS.out).mono ?_); rintro e w3 ⟨v3, rfl, hr3, hb3⟩; have hbx : Box w3 w.heap.size (.slice none 0 0) 80 := (hb3.block _ (by simp)).trans (World.alloc_heap_new w _); have cb := hbx.cell; have fb := hbx.frozen; obtain ⟨A3, n3, rfl⟩ : ∃ A n, v3 = .slice A es.length n := (by rcases hr3.2 with ⟨e, h0⟩ | ⟨g, cap, cur, e, _⟩; exact ⟨none, 0, by rw [e, h0]⟩; exact ⟨_, _, e⟩); have HR3 := Lib.hid hr3; have HB3 := Lib.hid hb3; have HBX := Lib.hid hbx; clear hr3 hb3 hbx))
  go_ret
  refine ⟨_, rfl, HBX.out.set _, ?_, ?_⟩
  · have := HR3.out
    exact ownsRow_setCell_below this (a := ⟨w.heap.size, 0, none⟩) (by simp) _
  · exact (HB0.out.trans (HB3.out.mono (by omega))).setCell (p := ⟨w.heap.size, 0, none⟩) (Nat.le_refl _) _

/-- the blocks on which the iterator leans -/
def PathsT (k : Nat) (v : Value) (j : Nat) : Prop := j = k ∨ v.ownBlock = some j
def PathsRel (k : Nat) (v : Value) (N : Nat) (w : World) (J : Nat → World → Prop) (i : Value) (wr : World) : Prop := ∃ n : Nat, n ≤ N ∧ i = .int .i64 n ∧ Same (PathsT k v) w wr ∧ J n wr

set_option maxRecDepth 100000 in
set_option maxHeartbeats 1000000 in
theorem paths_iter (w : World) (k base : Nat) (v : Value) (xs : List (List UInt8)) (hl : xs.length ≤ 1000000) (hb : Box w k v 80) (hrow : w.ownsRow base 9 1 v xs.length (xs.map str)) :
    Iter Tryz.prog 114 #[.pointer (some ⟨k, 0, none⟩)] (PathsT k v) (xs.map str) w := by
  intro n l J Jx W hs hJ hJx hY h0
  have hbW : Box W k v 80 := hb.same (hs.block _ (.inl rfl))
  have cW := hbW.cell
  have hrowW : ∀ W', Same (PathsT k v) w W' → ∀ g cap, v = .slice (some ⟨g, 0, none⟩) xs.length cap → ∀ j (hj : j < xs.length), W'.cell? ⟨g, j, none⟩ = some (str xs[j]) := fun W' hs' g cap e j hj => by
    have := hrow.cells (g := g) (by rw [e]; rfl) j (str xs[j]) (by simp [hj])
    have h2 : W'.cell? ((⟨g, 0, none⟩ : Addr).add j) = w.cell? ((⟨g, 0, none⟩ : Addr).add j) := World.cell?_of_block (by
      have hbk : ((⟨g, 0, none⟩ : Addr).add j).block = g := by unfold Addr.add; split <;> rfl
      rw [hbk]; exact hs'.block g (.inr (by rw [e]; rfl)))
    have h3 := h2.trans this
    rcases Nat.eq_zero_or_pos j with rfl | hp
    · simpa [Addr.add] using h3
    · have e0 : (⟨g, 0, none⟩ : Addr).add j = ⟨g, j, none⟩ := by simp [Addr.add]; omega
      rwa [e0] at h3
  have HRW := Lib.hid hrowW
  have HSAME := Lib.hid hs
  have HY := Lib.hid hY
  have H0 := Lib.hid h0
  have HJ := Lib.hid hJ
  have hshape : (v = .slice none 0 0 ∧ xs = []) ∨ ∃ g cap, v = .slice (some ⟨g, 0, none⟩) xs.length cap := by
    rcases hrow.2 with ⟨e, h0⟩ | ⟨g, cap, cur, e, _⟩
    · exact .inl ⟨e, List.eq_nil_of_length_eq_zero h0⟩
    · exact .inr ⟨g, cap, e⟩
  have hdep : Fence.wide.depth.isSome = false := rfl
  clear hb hrow hs hJ hJx hY h0 hbW hrowW
  rcases hshape with ⟨rfl, rfl⟩ | ⟨g, cap, rfl⟩
  · refine callsIn_of_wp Tryz.func114 rfl trivial ?_ rfl
    simp only [Tryz.ntmps114, List.size_toArray, List.length_cons, List.length_nil, Nat.reduceAdd, Nat.reduceSub, Array.replicate_succ, Array.replicate_zero, List.push_toArray, List.append_toArray, List.nil_append, List.cons_append]
    gi_wp2_with fail
    gi_loopw [7] (fun i wr => i = .int .i64 0 ∧ J 0 wr) (fun _ _ => 0)
    case atStart => exact ⟨rfl, H0.out⟩
    case round =>
      obtain ⟨rfl, hj⟩ := hrel
      gi_wp2_with fail
      go_end0
      exact ⟨⟨_, rfl⟩, .inl hj⟩
  · refine callsIn_of_wp Tryz.func114 rfl trivial ?_ rfl
    simp only [Tryz.ntmps114, List.size_toArray, List.length_cons, List.length_nil, Nat.reduceAdd, Nat.reduceSub, Array.replicate_succ, Array.replicate_zero, List.push_toArray, List.append_toArray, List.nil_append, List.cons_append]
    gi_wp2_with fail
    gi_loopw [7] (fun i wr => PathsRel k (.slice (some ⟨g, 0, none⟩) xs.length cap) xs.length w J i wr) (fun i _ => xs.length - (intOf i).toNat)
    case atStart => exact ⟨0, Nat.zero_le _, rfl, HSAME.out, H0.out⟩
    case round =>
      obtain ⟨m, hm, rfl, hsm, hj⟩ := hrel
      have HSM := Lib.hid hsm
      have HJM := Lib.hid hj
      clear hsm hj
      by_cases hlt : m < xs.length
      · have hcell := HRW.out wr HSM.out g cap rfl m hlt
        obtain ⟨fn, tmps, assign, body, hy, hR⟩ := HY.out m (str xs[m]) wr (by simp [hlt]) HJM.out
        have HR := Lib.hid hR
        clear hR
        generalize xs[m] = q at hcell hy
        gi_wp2_with fail
        refine (HR.out).mono ?_
        rintro e W3 (⟨rfl, hJ3, hk3⟩ | ⟨rfl, hJx3⟩)
        · have HJ3 := Lib.hid hJ3
          have HK3 := Lib.hid hk3
          clear hJ3 hk3
          gi_wp2_with fail
          go_roundw
          case rel => exact ⟨m + 1, by omega, by go_num, HSM.out.trans HK3.out, HJ3.out⟩
          case measure => simp [intOf]; omega
        · gi_wp2_with fail
          refine bodyPost_ret (results_none rfl _ _ _) rfl ?_
          exact ⟨⟨_, rfl⟩, .inr hJx3⟩
      · obtain rfl : m = xs.length := by omega
        gi_wp2_with fail
        go_end0
        exact ⟨⟨_, rfl⟩, .inl (by rw [List.length_map]; exact HJM.out)⟩

end Go.Proofs.YthpkfgjjaieikaaGreatDoor
