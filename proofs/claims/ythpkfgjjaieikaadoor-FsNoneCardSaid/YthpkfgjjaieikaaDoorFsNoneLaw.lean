/-
  Proved here: the law FsNone returns true for every operation and leaves it as it was (a file system that no call made answers ErrMade to each call, and holds nothing).
  Conditions: those of the given card alone (the two tables of the standard library lie as the program's text lays them).
-/
import Derived.Test.YthpkfgjjaieikaaDoorFsNoneC
import Derived.Test.YthpkfgjjaieikaaDoorFsOp
import Derived.ChangeMaps5
import Derived.Lib.SmallJoins
import Derived.LoopNIn
namespace Go.Proofs.YthpkfgjjaieikaaDoor
open Go.RowKit Go.Shelf Go.Lib Go.Maps
attribute [local go_sem] Oper.semAt_some

/-- what lies while the calls are made: the operation, the answer, the zero file system, the two file systems -/
structure Env (W : World) (ob zb : Nat) (d : Int) (p q : List UInt8) (B : Value) (k i j : Int) : Prop where
  op : W.heap[ob]? = some (.cells #[.int .i64 d, str p, str q, B, .int .i64 k, .int .i64 i, .int .i64 j] 43 (0, 0))
  ans : Box W (ob + 1) (.bool false) 4
  fs : W.heap[zb]? = some (.cells #[.map none, .int .i64 0, .int .i64 0, .int .i64 0, .int .i64 0, .bool false] 64 (0, 0))
  two : W.heap[zb + 1]? = some (.cells #[.pointer none, .pointer (some ⟨zb, 0, none⟩)] 25 (0, 0))
section
variable {W W' : World} {ob zb : Nat} {d : Int} {p q : List UInt8} {B : Value} {k i j : Int}
theorem Env.touch {T : Nat → Prop} (h : Env W ob zb d p q B k i j) (ht : Touch T W W') (hT : ∀ x, T x → x ≠ ob ∧ x ≠ ob + 1 ∧ x ≠ zb ∧ x ≠ zb + 1) : Env W' ob zb d p q B k i j :=
  have lt : ∀ {x o}, W.heap[x]? = some o → x < W.heap.size := fun hx => (Array.getElem?_eq_some_iff.1 hx).1
  ⟨(ht.block _ (lt h.op) fun hx => (hT _ hx).1 rfl).trans h.op, (ht.block _ (lt h.ans) fun hx => (hT _ hx).2.1 rfl).trans h.ans, (ht.block _ (lt h.fs) fun hx => (hT _ hx).2.2.1 rfl).trans h.fs, (ht.block _ (lt h.two) fun hx => (hT _ hx).2.2.2 rfl).trans h.two⟩
theorem Env.below (h : Env W ob zb d p q B k i j) (hb : Below W.heap.size W W') : Env W' ob zb d p q B k i j := h.touch (Touch.of_below (T := fun _ => False) hb) fun _ hx => hx.elim
theorem Env.none2 (h : Env W ob zb d p q B k i j) : NoneV W (.pointer (some ⟨zb, 0, none⟩)) := .inr ⟨zb, rfl, (Array.getElem?_eq_some_iff.1 h.fs).1, cell_of_row W zb 0 _ _ _ h.fs⟩
theorem Env.get (h : Env W ob zb d p q B k i j) : W.cell? ⟨ob, 1, none⟩ = some (str p) ∧ W.cell? ⟨ob, 2, none⟩ = some (str q) ∧ W.cell? ⟨ob, 3, none⟩ = some B ∧ W.cell? ⟨ob, 4, none⟩ = some (.int .i64 k) ∧ W.cell? ⟨ob, 5, none⟩ = some (.int .i64 i) ∧ W.cell? ⟨ob, 6, none⟩ = some (.int .i64 j) ∧
    W.cell? ⟨zb + 1, 0, none⟩ = some (.pointer none) ∧ W.cell? ⟨zb + 1, 1, none⟩ = some (.pointer (some ⟨zb, 0, none⟩)) :=
  ⟨cell_of_row W ob 1 _ _ _ h.op, cell_of_row W ob 2 _ _ _ h.op, cell_of_row W ob 3 _ _ _ h.op, cell_of_row W ob 4 _ _ _ h.op, cell_of_row W ob 5 _ _ _ h.op, cell_of_row W ob 6 _ _ _ h.op, cell_of_row W (zb + 1) 0 _ _ _ h.two, cell_of_row W (zb + 1) 1 _ _ _ h.two⟩
end
theorem build_zero (w : World) : (Instr.build 64 #[]).run Tryd.prog w = .ok (.agg #[.map none, .int .i64 0, .int .i64 0, .int .i64 0, .int .i64 0, .bool false]) w := run_build w _ _ _ (by kernel_rfl)

theorem none_round {W W2 : World} {ob zb : Nat} {d : Int} {p q : List UInt8} {B : Value} {k i j : Int} {w0 : World} (h : Env W ob zb d p q B k i j) (hB : Below w0.heap.size w0 W)
    (ht : Touch (fun x => PathsT W.heap.size (.slice none 0 0) x ∨ x = (W.alloc (.cells #[.slice none 0 0] 30)).heap.size + 1) (W.alloc (.cells #[.slice none 0 0] 30)) W2) :
    Env W2 ob zb d p q B k i j ∧ Below w0.heap.size w0 W2 ∧ W.heap.size < W2.heap.size := by
  have hs : (W.alloc (.cells #[.slice none 0 0] 30)).heap.size = W.heap.size + 1 := by simp
  have hge : ∀ x, (PathsT W.heap.size (.slice none 0 0) x ∨ x = (W.alloc (.cells #[.slice none 0 0] 30)).heap.size + 1) → W.heap.size ≤ x := fun x hx => by
    rcases hx with (rfl | hx) | rfl
    · exact Nat.le_refl _
    · cases hx
    · omega
  have hB' : Below W.heap.size W W2 := ((Below.refl _ W).alloc (Nat.le_refl _) _).trans (ht.below (by omega) hge)
  exact ⟨h.below hB', hB.trans (hB'.mono hB.size), by have := ht.size; omega⟩
theorem range_none {n : Nat} {g : Operand} {p : Tmp} {body : Code} {Q : Exit → Act → World → Prop} {a : Act} {w : World} {gf : Nat} {lb : Array Value}
    (hg : a.eval g = .func (.func gf) #[] lb) (eg : ∀ args w, (callFunc gf args).run Tryd.prog w = .ok (.enter gf args) w) {T : Nat → Prop} (hit : Iter Tryd.prog gf lb T [] w) (hT : ∀ k, T k → k < w.heap.size)
    (hdone : ∀ W : World, Touch (fun j => T j ∨ j = w.heap.size + 1) w W → W.heap[w.heap.size]? = some (.deferred (some [])) → Q .normal { a with defers := { target := .collected w.heap.size, args := #[] } :: a.defers } W) :
    (Code.rangeFunc g #[p] Code.skip body).wpIn Fence.wide n Tryd.prog Q a w := by
  refine range_law hg eg hit hT (fun _ W => Touch (fun j => T j ∨ j = w.heap.size + 1) w W) (fun _ _ => False) (fun _ _ _ h k => h.trans k) (fun _ _ _ h _ => h) (Touch.refl _ _) (fun x => { tmps := a.tmps.setIfInBounds p x, defers := [] }) ?_ ?_ (fun W h k => hdone W h k) (fun _ _ h => h.elim)
  · intro l x W K hK
    gi_wp2_with fail
    exact hK
  · intro l k x W hx
    cases hx

namespace lawFsNone

set_option maxRecDepth 100000 in
set_option maxHeartbeats 4000000 in
theorem walk_list (d : Int) (p q : List UInt8) (B : Value) (k i j : Int) (w : World) :
    Calls Tryd.prog 7 #[.agg #[.int .i64 d, str p, str q, B, .int .i64 k, .int .i64 i, .int .i64 j]] w fun e w' => e = .returned (.bool true) ∧ Below w.heap.size w w' := by
  refine (callsIn_wide (n := 8)).1 ?_
  refine callsIn_of_wp_marks Tryd.func7 rfl trivial ?_ rfl
  simp only [Tryd.ntmps7, List.size_toArray, List.length_cons, List.length_nil, Nat.reduceAdd, Nat.reduceSub, Array.replicate_succ, Array.replicate_zero, List.push_toArray, List.append_toArray, List.nil_append, List.cons_append]
  have hdep : Fence.wide.depth.isSome = false := rfl
  have hf0 : Fence.wide.fn 8 := trivial
  have hf1 : Fence.wide.fn 23 := trivial
  have hf2 : Fence.wide.fn 16 := trivial
  have hf3 : Fence.wide.fn 15 := trivial
  have hf4 : Fence.wide.fn 22 := trivial
  have hf5 : Fence.wide.fn 25 := trivial
  have hf6 : Fence.wide.fn 26 := trivial
  have hf7 : Fence.wide.fn 27 := trivial
  have hf8 : Fence.wide.fn 13 := trivial
  have hf9 : Fence.wide.fn 12 := trivial
  have hf10 : Fence.wide.fn 28 := trivial
  have hf11 : Fence.wide.fn 29 := trivial
  have hf12 : Fence.wide.fn 24 := trivial
  have hf13 : Fence.wide.fn 14 := trivial
  have hbz := build_zero
  gi_wp2_with (gi_at_call 8; refine (callsIn_wide.2 (begun_any _)).mono ?_; rintro e w1 ⟨rfl, hb1⟩; have HB1 := Lib.hid hb1; clear hb1)
  have hE : Env ((w1.alloc (.cells #[.map none, .int .i64 0, .int .i64 0, .int .i64 0, .int .i64 0, .bool false] 64)).alloc (.cells #[.pointer none, .pointer (some ⟨w1.heap.size, 0, none⟩)] 25)) w.heap.size w1.heap.size d p q B k i j := by
    have hz : (w.alloc (.cells #[.int .i64 d, str p, str q, B, .int .i64 k, .int .i64 i, .int .i64 j] 43)).heap.size = w.heap.size + 1 := by simp
    have hs : w.heap.size + 2 ≤ w1.heap.size := by have := HB1.out.size; simp at this; omega
    have hold : ∀ x, x < w.heap.size + 2 → ((w1.alloc (.cells #[.map none, .int .i64 0, .int .i64 0, .int .i64 0, .int .i64 0, .bool false] 64)).alloc (.cells #[.pointer none, .pointer (some ⟨w1.heap.size, 0, none⟩)] 25)).heap[x]? =
        ((w.alloc (.cells #[.int .i64 d, str p, str q, B, .int .i64 k, .int .i64 i, .int .i64 j] 43)).alloc (.cells #[.bool false] 4)).heap[x]? := fun x hx => by
      rw [Below.heap_alloc _ _ _ (by simp; omega), Below.heap_alloc _ _ _ (by omega)]
      exact HB1.out.block x (by simp; omega)
    have hz1 : (w1.alloc (.cells #[.map none, .int .i64 0, .int .i64 0, .int .i64 0, .int .i64 0, .bool false] 64)).heap.size = w1.heap.size + 1 := by simp
    refine ⟨?_, ?_, ?_, ?_⟩
    · rw [hold _ (by omega), Below.heap_alloc _ _ _ (by omega)]
      exact World.alloc_heap_new w _
    · show _ = _
      rw [hold _ (by omega)]
      have := World.alloc_heap_new (w.alloc (.cells #[.int .i64 d, str p, str q, B, .int .i64 k, .int .i64 i, .int .i64 j] 43)) (.cells #[.bool false] 4)
      rwa [hz] at this
    · rw [Below.heap_alloc _ _ _ (by omega)]
      exact World.alloc_heap_new w1 _
    · have := World.alloc_heap_new (w1.alloc (.cells #[.map none, .int .i64 0, .int .i64 0, .int .i64 0, .int .i64 0, .bool false] 64)) (.cells #[.pointer none, .pointer (some ⟨w1.heap.size, 0, none⟩)] 25)
      rwa [hz1] at this
  have hW : Below w.heap.size w ((w1.alloc (.cells #[.map none, .int .i64 0, .int .i64 0, .int .i64 0, .int .i64 0, .bool false] 64)).alloc (.cells #[.pointer none, .pointer (some ⟨w1.heap.size, 0, none⟩)] 25)) := by
    have hs : w.heap.size + 2 ≤ w1.heap.size := by have := HB1.out.size; simp at this; omega
    exact (((((Below.refl _ w).alloc (Nat.le_refl _) _).alloc (by simp) _).trans (HB1.out.mono (by simp; omega))).alloc (by omega) _).alloc (by simp; omega) _
  generalize (w1.alloc (.cells #[.map none, .int .i64 0, .int .i64 0, .int .i64 0, .int .i64 0, .bool false] 64)).alloc (.cells #[.pointer none, .pointer (some ⟨w1.heap.size, 0, none⟩)] 25) = W0 at *
  generalize w1.heap.size = zb at *
  obtain ⟨c1, c2, c3, c4, c5, c6, c7, c8⟩ := hE.get
  have HE := Lib.hid hE
  have HB := Lib.hid hW
  clear hE hW HB1
  refine wpIn_loop_rounds 3 ?_
  rw [roundsIn_succ]
  gi_wp2_with (first
    | (gi_at_call 23; refine (callsIn_wide.2 (read_none _ _ _ (.inl rfl))).mono ?_; rintro e W ⟨rfl, hb⟩; replace HB := Lib.hid (HB.out.trans (hb.mono HB.out.size)); replace HE := Lib.hid (HE.out.below hb); clear hb c1 c2 c3 c4 c5 c6 c7 c8; obtain ⟨c1, c2, c3, c4, c5, c6, c7, c8⟩ := HE.out.get)
    | (gi_at_call 16; refine (callsIn_wide.2 (list_none _ _ _ (.inl rfl))).mono ?_; rintro e W ⟨rfl, hb⟩; replace HB := Lib.hid (HB.out.trans (hb.mono HB.out.size)); replace HE := Lib.hid (HE.out.below hb); clear hb c1 c2 c3 c4 c5 c6 c7 c8; obtain ⟨c1, c2, c3, c4, c5, c6, c7, c8⟩ := HE.out.get)
    | (gi_at_call 15; refine (callsIn_wide.2 (is_none _ _ _ (.inl rfl))).mono ?_; rintro e W ⟨rfl, hb⟩; replace HB := Lib.hid (HB.out.trans (hb.mono HB.out.size)); replace HE := Lib.hid (HE.out.below hb); clear hb c1 c2 c3 c4 c5 c6 c7 c8; obtain ⟨c1, c2, c3, c4, c5, c6, c7, c8⟩ := HE.out.get)
    | (gi_at_call 22; refine (callsIn_wide.2 (write_none _ _ _ _ (.inl rfl))).mono ?_; rintro e W ⟨rfl, hb⟩; replace HB := Lib.hid (HB.out.trans (hb.mono HB.out.size)); replace HE := Lib.hid (HE.out.below hb); clear hb c1 c2 c3 c4 c5 c6 c7 c8; obtain ⟨c1, c2, c3, c4, c5, c6, c7, c8⟩ := HE.out.get)
    | (gi_at_call 25; refine (callsIn_wide.2 (append_none _ _ _ _ (.inl rfl))).mono ?_; rintro e W ⟨rfl, hb⟩; replace HB := Lib.hid (HB.out.trans (hb.mono HB.out.size)); replace HE := Lib.hid (HE.out.below hb); clear hb c1 c2 c3 c4 c5 c6 c7 c8; obtain ⟨c1, c2, c3, c4, c5, c6, c7, c8⟩ := HE.out.get)
    | (gi_at_call 26; refine (callsIn_wide.2 (rename_none _ _ _ _ (.inl rfl))).mono ?_; rintro e W ⟨rfl, hb⟩; replace HB := Lib.hid (HB.out.trans (hb.mono HB.out.size)); replace HE := Lib.hid (HE.out.below hb); clear hb c1 c2 c3 c4 c5 c6 c7 c8; obtain ⟨c1, c2, c3, c4, c5, c6, c7, c8⟩ := HE.out.get)
    | (gi_at_call 27; refine (callsIn_wide.2 (remove_none _ _ _ (.inl rfl))).mono ?_; rintro e W ⟨rfl, hb⟩; replace HB := Lib.hid (HB.out.trans (hb.mono HB.out.size)); replace HE := Lib.hid (HE.out.below hb); clear hb c1 c2 c3 c4 c5 c6 c7 c8; obtain ⟨c1, c2, c3, c4, c5, c6, c7, c8⟩ := HE.out.get)
    | (gi_at_call 13; refine (callsIn_wide.2 (setFault_none _ _ _ _ _ (.inl rfl))).mono ?_; rintro e W ⟨rfl, hb⟩; replace HB := Lib.hid (HB.out.trans (hb.mono HB.out.size)); replace HE := Lib.hid (HE.out.below hb); clear hb c1 c2 c3 c4 c5 c6 c7 c8; obtain ⟨c1, c2, c3, c4, c5, c6, c7, c8⟩ := HE.out.get)
    | (gi_at_call 12; refine (callsIn_wide.2 (restart_none _ _ (.inl rfl))).mono ?_; rintro e W ⟨rfl, hb⟩; replace HB := Lib.hid (HB.out.trans (hb.mono HB.out.size)); replace HE := Lib.hid (HE.out.below hb); clear hb c1 c2 c3 c4 c5 c6 c7 c8; obtain ⟨c1, c2, c3, c4, c5, c6, c7, c8⟩ := HE.out.get)
    | (gi_at_call 28; refine (callsIn_wide.2 (calls_none _ _ (.inl rfl))).mono ?_; rintro e W ⟨rfl, hb⟩; replace HB := Lib.hid (HB.out.trans (hb.mono HB.out.size)); replace HE := Lib.hid (HE.out.below hb); clear hb c1 c2 c3 c4 c5 c6 c7 c8; obtain ⟨c1, c2, c3, c4, c5, c6, c7, c8⟩ := HE.out.get)
    | (gi_at_call 29; refine (callsIn_wide.2 (down_none _ _ (.inl rfl))).mono ?_; rintro e W ⟨rfl, hb⟩; replace HB := Lib.hid (HB.out.trans (hb.mono HB.out.size)); replace HE := Lib.hid (HE.out.below hb); clear hb c1 c2 c3 c4 c5 c6 c7 c8; obtain ⟨c1, c2, c3, c4, c5, c6, c7, c8⟩ := HE.out.get)
    | (gi_at_call 24; refine (callsIn_wide.2 (clone_none _ _ (.inl rfl))).mono ?_; rintro e W ⟨rfl, hb⟩; replace HB := Lib.hid (HB.out.trans (hb.mono HB.out.size)); replace HE := Lib.hid (HE.out.below hb); clear hb c1 c2 c3 c4 c5 c6 c7 c8; obtain ⟨c1, c2, c3, c4, c5, c6, c7, c8⟩ := HE.out.get)
    | (gi_at_call 14; refine (callsIn_wide.2 (paths_none _ _ (.inl rfl))).mono ?_; rintro e W ⟨rfl, rfl⟩))
  refine range_none (T := PathsT W.heap.size (.slice none 0 0)) rfl (enters_of Tryd.func35 (by kernel_rfl) rfl) (paths_iter _ W.heap.size 0 (.slice none 0 0) [] (by simp) (World.alloc_heap_new W _) (World.ownsRow_nil _ _ _ _)) (fun k hk => by rcases hk with rfl | hk; simp; cases hk) ?_
  intro W2 hT2 hK2
  obtain ⟨hE2, hB2, hL2⟩ := none_round HE.out HB.out hT2
  obtain ⟨b1, hb1⟩ : ∃ b1, b1 = (W.alloc (.cells #[.slice none 0 0] 30)).heap.size := ⟨_, rfl⟩
  have hge1 : w.heap.size ≤ b1 := by have := HB.out.size; rw [hb1]; simp; omega
  have HGE1 := Lib.hid hge1
  rw [← hb1] at hK2
  have HK1 := Lib.hid hK2
  have HB1 := Lib.hid hB2
  have hlt1 : b1 < W2.heap.size := (Array.getElem?_eq_some_iff.1 hK2).1
  have HLT1 := Lib.hid hlt1
  replace HE := Lib.hid hE2
  replace HB := Lib.hid (Below.refl W2.heap.size W2)
  rw [← hb1]
  clear hge1 hT2 hK2 hE2 hB2 hL2 hlt1 hb1 c1 c2 c3 c4 c5 c6 c7 c8
  obtain ⟨c1, c2, c3, c4, c5, c6, c7, c8⟩ := HE.out.get
  gi_wp2_with fail
  rw [roundsIn_succ]
  gi_wp2_with (first
    | (gi_at_call 23; refine (callsIn_wide.2 (read_none _ _ _ HE.out.none2)).mono ?_; rintro e W ⟨rfl, hb⟩; replace HB := Lib.hid (HB.out.trans (hb.mono HB.out.size)); replace HE := Lib.hid (HE.out.below hb); clear hb c1 c2 c3 c4 c5 c6 c7 c8; obtain ⟨c1, c2, c3, c4, c5, c6, c7, c8⟩ := HE.out.get)
    | (gi_at_call 16; refine (callsIn_wide.2 (list_none _ _ _ HE.out.none2)).mono ?_; rintro e W ⟨rfl, hb⟩; replace HB := Lib.hid (HB.out.trans (hb.mono HB.out.size)); replace HE := Lib.hid (HE.out.below hb); clear hb c1 c2 c3 c4 c5 c6 c7 c8; obtain ⟨c1, c2, c3, c4, c5, c6, c7, c8⟩ := HE.out.get)
    | (gi_at_call 15; refine (callsIn_wide.2 (is_none _ _ _ HE.out.none2)).mono ?_; rintro e W ⟨rfl, hb⟩; replace HB := Lib.hid (HB.out.trans (hb.mono HB.out.size)); replace HE := Lib.hid (HE.out.below hb); clear hb c1 c2 c3 c4 c5 c6 c7 c8; obtain ⟨c1, c2, c3, c4, c5, c6, c7, c8⟩ := HE.out.get)
    | (gi_at_call 22; refine (callsIn_wide.2 (write_none _ _ _ _ HE.out.none2)).mono ?_; rintro e W ⟨rfl, hb⟩; replace HB := Lib.hid (HB.out.trans (hb.mono HB.out.size)); replace HE := Lib.hid (HE.out.below hb); clear hb c1 c2 c3 c4 c5 c6 c7 c8; obtain ⟨c1, c2, c3, c4, c5, c6, c7, c8⟩ := HE.out.get)
    | (gi_at_call 25; refine (callsIn_wide.2 (append_none _ _ _ _ HE.out.none2)).mono ?_; rintro e W ⟨rfl, hb⟩; replace HB := Lib.hid (HB.out.trans (hb.mono HB.out.size)); replace HE := Lib.hid (HE.out.below hb); clear hb c1 c2 c3 c4 c5 c6 c7 c8; obtain ⟨c1, c2, c3, c4, c5, c6, c7, c8⟩ := HE.out.get)
    | (gi_at_call 26; refine (callsIn_wide.2 (rename_none _ _ _ _ HE.out.none2)).mono ?_; rintro e W ⟨rfl, hb⟩; replace HB := Lib.hid (HB.out.trans (hb.mono HB.out.size)); replace HE := Lib.hid (HE.out.below hb); clear hb c1 c2 c3 c4 c5 c6 c7 c8; obtain ⟨c1, c2, c3, c4, c5, c6, c7, c8⟩ := HE.out.get)
    | (gi_at_call 27; refine (callsIn_wide.2 (remove_none _ _ _ HE.out.none2)).mono ?_; rintro e W ⟨rfl, hb⟩; replace HB := Lib.hid (HB.out.trans (hb.mono HB.out.size)); replace HE := Lib.hid (HE.out.below hb); clear hb c1 c2 c3 c4 c5 c6 c7 c8; obtain ⟨c1, c2, c3, c4, c5, c6, c7, c8⟩ := HE.out.get)
    | (gi_at_call 13; refine (callsIn_wide.2 (setFault_none _ _ _ _ _ HE.out.none2)).mono ?_; rintro e W ⟨rfl, hb⟩; replace HB := Lib.hid (HB.out.trans (hb.mono HB.out.size)); replace HE := Lib.hid (HE.out.below hb); clear hb c1 c2 c3 c4 c5 c6 c7 c8; obtain ⟨c1, c2, c3, c4, c5, c6, c7, c8⟩ := HE.out.get)
    | (gi_at_call 12; refine (callsIn_wide.2 (restart_none _ _ HE.out.none2)).mono ?_; rintro e W ⟨rfl, hb⟩; replace HB := Lib.hid (HB.out.trans (hb.mono HB.out.size)); replace HE := Lib.hid (HE.out.below hb); clear hb c1 c2 c3 c4 c5 c6 c7 c8; obtain ⟨c1, c2, c3, c4, c5, c6, c7, c8⟩ := HE.out.get)
    | (gi_at_call 28; refine (callsIn_wide.2 (calls_none _ _ HE.out.none2)).mono ?_; rintro e W ⟨rfl, hb⟩; replace HB := Lib.hid (HB.out.trans (hb.mono HB.out.size)); replace HE := Lib.hid (HE.out.below hb); clear hb c1 c2 c3 c4 c5 c6 c7 c8; obtain ⟨c1, c2, c3, c4, c5, c6, c7, c8⟩ := HE.out.get)
    | (gi_at_call 29; refine (callsIn_wide.2 (down_none _ _ HE.out.none2)).mono ?_; rintro e W ⟨rfl, hb⟩; replace HB := Lib.hid (HB.out.trans (hb.mono HB.out.size)); replace HE := Lib.hid (HE.out.below hb); clear hb c1 c2 c3 c4 c5 c6 c7 c8; obtain ⟨c1, c2, c3, c4, c5, c6, c7, c8⟩ := HE.out.get)
    | (gi_at_call 24; refine (callsIn_wide.2 (clone_none _ _ HE.out.none2)).mono ?_; rintro e W ⟨rfl, hb⟩; replace HB := Lib.hid (HB.out.trans (hb.mono HB.out.size)); replace HE := Lib.hid (HE.out.below hb); clear hb c1 c2 c3 c4 c5 c6 c7 c8; obtain ⟨c1, c2, c3, c4, c5, c6, c7, c8⟩ := HE.out.get)
    | (gi_at_call 14; refine (callsIn_wide.2 (paths_none _ _ HE.out.none2)).mono ?_; rintro e W ⟨rfl, rfl⟩))
  refine range_none (T := PathsT W.heap.size (.slice none 0 0)) rfl (enters_of Tryd.func35 (by kernel_rfl) rfl) (paths_iter _ W.heap.size 0 (.slice none 0 0) [] (by simp) (World.alloc_heap_new W _) (World.ownsRow_nil _ _ _ _)) (fun k hk => by rcases hk with rfl | hk; simp; cases hk) ?_
  intro W3 hT3 hK3
  obtain ⟨hE3, hB3, hL3⟩ := none_round HE.out HB.out hT3
  have hK1 : W3.heap[b1]? = some (.deferred (some [])) := (hB3.block _ HLT1.out).trans HK1.out
  obtain ⟨b2, hb2⟩ : ∃ b2, b2 = (W.alloc (.cells #[.slice none 0 0] 30)).heap.size := ⟨_, rfl⟩
  have hb12 : b1 < b2 := by have := HLT1.out; have := HB.out.size; rw [hb2]; simp; omega
  rw [← hb2] at hK3
  rw [← hb2]
  have HK1' := Lib.hid hK1
  have HK2 := Lib.hid hK3
  have HB3 := Lib.hid hB3
  have HB12 := Lib.hid hb12
  have hans := hE3.ans
  have hac := hans.cell
  have haf := hans.frozen
  have HE3 := Lib.hid hE3
  clear hT3 hK3 hE3 hB3 hL3 hK1 hb2 hb12 hans c1 c2 c3 c4 c5 c6 c7 c8
  gi_wp2_with fail
  rw [roundsIn_succ]
  gi_wp2_with fail
  have hw1 : ∀ x, x ≠ w.heap.size + 1 → (W3.setCell ⟨w.heap.size + 1, 0, none⟩ (.bool true)).heap[x]? = W3.heap[x]? := fun x hx => Below.heap_setCell _ _ _ x hx
  have hnb : ∀ {x}, W3.heap[x]? = some (.deferred (some [])) → x ≠ w.heap.size + 1 := fun {x} hx e => by rw [e, HE3.out.ans] at hx; cases hx
  have hd2 := (hw1 b2 (hnb HK2.out)).trans HK2.out
  have hd1 := (hw1 b1 (hnb HK1'.out)).trans HK1'.out
  refine ⟨by simp, .inl ⟨_, _, rfl, run_takeDeferred hd2, ?_⟩⟩
  have hd1' := (World.putObj_heap_other (w := W3.setCell ⟨w.heap.size + 1, 0, none⟩ (.bool true)) (r := b2) (o := .deferred none) (show b1 ≠ b2 by have := HB12.out; omega)).trans hd1
  refine ⟨by simp, .inl ⟨_, _, rfl, run_takeDeferred hd1', ?_⟩⟩
  have hne1 : w.heap.size + 1 ≠ b1 := fun e => hnb HK1'.out e.symm
  have hne2 : w.heap.size + 1 ≠ b2 := fun e => hnb HK2.out e.symm
  have hbx : Box (((W3.setCell ⟨w.heap.size + 1, 0, none⟩ (.bool true)).putObj b2 (.deferred none)).putObj b1 (.deferred none)) (w.heap.size + 1) (.bool true) 4 :=
    ((HE3.out.ans.set (.bool true)).same (World.putObj_heap_other hne2)).same (World.putObj_heap_other hne1)
  have hc := hbx.cell
  have hge := HGE1.out
  have hlt := HB12.out
  refine ⟨.bool true, by simp [results, Tryd.results7, go_sem, hc], rfl, ?_⟩
  have hB3 := HB1.out.trans (HB3.out.mono HB1.out.size)
  have hS : Below w.heap.size w (W3.setCell ⟨w.heap.size + 1, 0, none⟩ (.bool true)) := hB3.setCell (p := ⟨w.heap.size + 1, 0, none⟩) (Nat.le_succ _) _
  have hP2 := hS.trans ((Touch.putObj (T := fun x => x = b2) _ b2 (.deferred none) rfl).below hS.size fun x hx => by omega)
  exact hP2.trans ((Touch.putObj (T := fun x => x = b1) _ b1 (.deferred none) rfl).below hP2.size fun x hx => by omega)

theorem walk (d : Int) (s t : ByteArray) (B : Value) (k i j : Int) (w : World) :
    Calls Tryd.prog 7 #[.agg (opCells d s t B k i j).toArray] w fun e w' => e = .returned (.bool true) ∧ Below w.heap.size w w' := walk_list d s.data.toList t.data.toList B k i j w

open Go.ChangeShapes Go.WideShapes Go.ChangeAt Go.ChangeMaps
set_option maxRecDepth 1000000 in
theorem contract (H : Type) (enc : TypeId × Value → H) (W : World) (base : Nat) (args : Array Value) (ds gs : List (DataW H)) (before : List MemPlace)
    (hval : ∀ (j : Nat) t v, Tryd.f7.params[j]? = some t → args[j]? = some v → Value.okWide Tryd.prog W .any base t v)
    (hW : DataW.Whole enc Tryd.prog Tryd.f7.params.toList Rows.fsNoneSpec.vars false W args.toList ds gs before) (_hL : laidMetH Tryd.prog Rows.fsNoneRow.laid W) :
    Calls Tryd.prog 7 args W fun e W' => ∃ v, e = .returned v ∧ Rows.fsNoneSpec.post enc Tryd.prog Tryd.f7 false true false false W args v W' := by
  have hW' := hW
  obtain ⟨p, q, hA0, hV, rfl, hfz, hnd⟩ := hW
  have hA : DataW.TrodAll enc Tryd.prog W 0 (fun _ => true) true Tryd.f7.params.toList args.toList ds p := hA0
  rw [Tryd.params7] at hA hval
  obtain ⟨v0, vs0, d0, ds0, p0, q0, hargs, rfl, rfl, h0, r0⟩ := trodAll_cons hA
  obtain ⟨rfl, rfl, rfl⟩ := trodAll_nil r0
  obtain rfl : args = #[v0] := by cases args; simp_all
  obtain ⟨rfl, rfl⟩ := trodVars_none hV
  have k0 := h0
  have lt0 : ∀ x ∈ p0, x.block < W.heap.size := by obtain ⟨m, hm⟩ := k0; exact DataW.trod_lt m _ _ _ hm
  obtain ⟨oa0, ob0, oc0, od0, os0, ot0, oB0, on0, oy0, rfl, om0, oq0, ow0, og0, rfl, rfl⟩ := open_op (hval 0 43 v0 rfl rfl) h0
  clear hA0
  refine (walk oa0 os0 ot0 oB0 ob0 oc0 od0 W).mono fun e W' ⟨he, bel⟩ => ?_
  subst he
  exact ⟨_, rfl, _, _, _, [], _, [], hW', trodAll_mk1 (shut_bool Tryd.underlying4 _), (trodAll_cons_mk (Below.trod laidOut (by kernel_rfl) (of_decide_eq_true (by kernel_rfl)) k0 bel lt0) trodAll_mk0), rfl, bel.frame _, fun h => by cases h⟩

theorem laid_met (os : Os) : laidMet Tryd.prog Rows.fsNoneRow.laid ((laidWorld os).forCall (fun _ _ => 0) ⟨#[], #[.agg #[.int .i64 0, .string ⟨#[]⟩, .string ⟨#[]⟩, .slice none 0 0, .int .i64 0, .int .i64 0, .int .i64 0]], []⟩).memory :=
  laidMet_of_run' 8 (by kernel_rfl) (by kernel_rfl)
theorem reads (os : Os) {H : Type} (enc : TypeId × Value → H) : ∃ places, DataW.whole enc Tryd.prog ((laidWorld os).forCall (fun _ _ => 0) ⟨#[], #[.agg #[.int .i64 0, .string ⟨#[]⟩, .string ⟨#[]⟩, .slice none 0 0, .int .i64 0, .int .i64 0, .int .i64 0]], []⟩).memory Tryd.f7.params.toList Rows.fsNoneSpec.vars false #[Value.agg #[.int .i64 0, .string ⟨#[]⟩, .string ⟨#[]⟩, .slice none 0 0, .int .i64 0, .int .i64 0, .int .i64 0]].toList 8 = some ([.agg [.lit (.int .i64 0), .lit (.string []), .lit (.string []), .nil, .lit (.int .i64 0), .lit (.int .i64 0), .lit (.int .i64 0)]], [], places) :=
  ⟨[], by kernel_rfl⟩

set_option maxRecDepth 100000 in
theorem lifted (os : Os) (started : os.Started) (H : Type) (enc : TypeId × Value → H) (F : Stop.Interp) :
    ReturnsInHanded {} Tryd.checked os 7 .any ((OpenSpec.ofChange Rows.fsNoneSpec).preRow enc Tryd.prog Tryd.f7 Rows.fsNoneRow.domain false Rows.fsNoneRow.laid) (((OpenSpec.ofChange Rows.fsNoneSpec).at F).post enc Tryd.prog Tryd.f7 false true false false) := by
  obtain ⟨places, hx⟩ := reads os enc
  refine returnsInHanded_of_row (C := Tryd.checked) (s := OpenSpec.ofChange Rows.fsNoneSpec) own started (by kernel_rfl) Tryd.func7
    (witness_row_at (enc := enc) (C := Tryd.checked) false (laidWorld os) #[.agg #[.int .i64 0, .string ⟨#[]⟩, .string ⟨#[]⟩, .slice none 0 0, .int .i64 0, .int .i64 0, .int .i64 0]] rfl (by kernel_rfl) (by kernel_rfl) (by kernel_rfl)
      (OpenSpec.preRow_of_cond 8 hx (by kernel_rfl) (fun k hk => by cases hk) (by kernel_rfl) (laid_met os))) ?_
  intro W base args ds gs before hval hW _ _ _ hL _ _
  exact contract H enc W base args ds gs before hval hW hL

theorem said : Rows.FsNoneSaid :=
  OpenClaim.holds_of_cond 7 Tryd.f7 rfl rfl rfl rfl rfl rfl rfl ⟨rfl, rfl, rfl, rfl, rfl⟩ rfl rfl rfl rfl rfl (by kernel_rfl) Tryd.func7 (by kernel_rfl)
    (of_decide_eq_true (by kernel_rfl)) (by unfold Func.isWrapper; first | (rw [if_pos (by decide +kernel)]; kernel_rfl) | (rw [if_neg (by decide +kernel)]; exact ⟨rfl, rfl⟩))
    (fun os started H enc _ F => by rw [OpenClaim.pre_eq_preRow]; exact lifted os started H enc F)

theorem plain (f : FuncId) (fn : Func) (hf : Tryd.pinned.checked.prog.funcNamed "lanyard/lanyardlaw02.FsNone" = some f) (hfn : Tryd.pinned.checked.prog.funcs[f]? = some fn) :
    false = Tryd.pinned.checked.prog.looks [] ∧ ∀ (j : Nat) t, fn.params[j]? = some t → Tryd.pinned.checked.prog.wantsStandIn t = false := by
  obtain rfl : f = 7 := Option.some.inj ((show Tryd.prog.funcNamed "lanyard/lanyardlaw02.FsNone" = some 7 by kernel_rfl).symm.trans hf) |>.symm
  obtain rfl : fn = Tryd.f7 := (Option.some.inj (Tryd.func7.symm.trans hfn)).symm
  refine ⟨by kernel_rfl, fun j t ht => ?_⟩
  rw [Tryd.params7] at ht
  have ht' := Array.mem_of_getElem? ht
  simp at ht'
  subst ht'
  exact (show Tryd.prog.wantsStandIn 43 = false by kernel_rfl)

theorem card : Rows.FsNoneCardSaid :=
  Claim7.holds_tied_plain_at .later [] _ _ _ _ said (fun _ h => by cases h) (by kernel_rfl) (fun _ h => by cases h) fsNone_row_tie rfl ⟨rfl, rfl⟩ (by kernel_rfl) rfl plain (by kernel_rfl)


end lawFsNone
end Go.Proofs.YthpkfgjjaieikaaDoor
