/-
  What a list of edits that no call made answers, to each call.
-/
import Derived.Test.YtjgjbdpknfplkaaUdBegun
import Derived.Test.YtjgjbdpknfplkaaUdRange
import Derived.LoopIn
import Derived.LoopNIn
namespace Go.Proofs.Ytjgjbdpknfplkaa
open Go.RowKit Go.Shelf Go.Lib
attribute [local go_sem] Oper.semAt_some

def NoneP (w : World) (q : Option Addr) : Prop := q = none ∨ ∃ z, q = some ⟨z, 0, none⟩ ∧ w.cell? ⟨z, 1, none⟩ = some (.bool false) ∧ z < w.heap.size
theorem NoneP.below {w w' : World} {q : Option Addr} (h : NoneP w q) (hb : Below w.heap.size w w') : NoneP w' q := by
  rcases h with h | ⟨z, h1, h2, h3⟩
  · exact .inl h
  · exact .inr ⟨z, h1, (hb.cell (p := ⟨z, 1, none⟩) h3).trans h2, Nat.lt_of_lt_of_le h3 hb.size⟩
set_option maxRecDepth 1000000 in
theorem usable_none (w : World) (q : Option Addr) (h : NoneP w q) : Calls Try.prog 51 #[.pointer q] w fun e w' => e = .returned (.bool false) ∧ w = w' := by
  rcases h with rfl | ⟨z, rfl, c1, _⟩
  · go_enter Try.func51, Try.ntmps51
    go_wp2
    go_ret
    exact ⟨rfl, rfl⟩
  · go_enter Try.func51, Try.ntmps51
    go_wp2
    go_ret
    exact ⟨rfl, rfl⟩
set_option maxRecDepth 1000000 in
theorem begin_none (w : World) (q : Option Addr) (h : NoneP w q) : Calls Try.prog 21 #[.pointer q] w fun e w' => e = .returned (.int .i64 2) ∧ w = w' := by
  have CU := Lib.hid (usable_none w q h)
  clear h
  go_enter Try.func21, Try.ntmps21
  go_wp2_with (go_at_call 51; refine (CU.out).mono ?_; rintro e w1 ⟨rfl, rfl⟩)
  go_ret
  exact ⟨rfl, rfl⟩
set_option maxRecDepth 1000000 in
theorem end_none (w : World) (q : Option Addr) (h : NoneP w q) : Calls Try.prog 23 #[.pointer q] w fun e w' => e = .returned (.int .i64 2) ∧ w = w' := by
  have CU := Lib.hid (usable_none w q h)
  clear h
  go_enter Try.func23, Try.ntmps23
  go_wp2_with (go_at_call 51; refine (CU.out).mono ?_; rintro e w1 ⟨rfl, rfl⟩)
  go_ret
  exact ⟨rfl, rfl⟩
set_option maxRecDepth 1000000 in
theorem undo_n (w : World) (q : Option Addr) (h : NoneP w q) : Calls Try.prog 25 #[.pointer q] w fun e w' => e = .returned (.tuple #[.slice none 0 0, .int .i64 2]) ∧ w = w' := by
  have CU := Lib.hid (usable_none w q h)
  clear h
  go_enter Try.func25, Try.ntmps25
  go_wp2_with (go_at_call 51; refine (CU.out).mono ?_; rintro e w1 ⟨rfl, rfl⟩)
  go_ret2
  exact ⟨rfl, rfl⟩
set_option maxRecDepth 1000000 in
theorem revert_none (w : World) (q : Option Addr) (h : NoneP w q) : Calls Try.prog 28 #[.pointer q] w fun e w' => e = .returned (.slice none 0 0) ∧ w = w' := by
  have CU := Lib.hid (usable_none w q h)
  clear h
  go_enter Try.func28, Try.ntmps28
  go_wp2_with (go_at_call 51; refine (CU.out).mono ?_; rintro e w1 ⟨rfl, rfl⟩)
  go_ret
  exact ⟨rfl, rfl⟩
set_option maxRecDepth 1000000 in
theorem len_none (w : World) (q : Option Addr) (h : NoneP w q) : Calls Try.prog 33 #[.pointer q] w fun e w' => e = .returned (.int .i64 0) ∧ w = w' := by
  have CU := Lib.hid (usable_none w q h)
  clear h
  go_enter Try.func33, Try.ntmps33
  go_wp2_with (go_at_call 51; refine (CU.out).mono ?_; rintro e w1 ⟨rfl, rfl⟩)
  go_ret
  exact ⟨rfl, rfl⟩
set_option maxRecDepth 1000000 in
theorem edits_none (w : World) (q : Option Addr) (h : NoneP w q) : Calls Try.prog 35 #[.pointer q] w fun e w' => e = .returned (.int .i64 0) ∧ w = w' := by
  have CU := Lib.hid (usable_none w q h)
  clear h
  go_enter Try.func35, Try.ntmps35
  go_wp2_with (go_at_call 51; refine (CU.out).mono ?_; rintro e w1 ⟨rfl, rfl⟩)
  go_ret
  exact ⟨rfl, rfl⟩
set_option maxRecDepth 1000000 in
theorem open_none (w : World) (q : Option Addr) (h : NoneP w q) : Calls Try.prog 37 #[.pointer q] w fun e w' => e = .returned (.int .i64 0) ∧ w = w' := by
  have CU := Lib.hid (usable_none w q h)
  clear h
  go_enter Try.func37, Try.ntmps37
  go_wp2_with (go_at_call 51; refine (CU.out).mono ?_; rintro e w1 ⟨rfl, rfl⟩)
  go_ret
  exact ⟨rfl, rfl⟩
set_option maxRecDepth 1000000 in
theorem clone_none (w : World) (q : Option Addr) (h : NoneP w q) : Calls Try.prog 31 #[.pointer q] w fun e w' => e = .returned (.pointer none) ∧ w = w' := by
  have CU := Lib.hid (usable_none w q h)
  clear h
  go_enter Try.func31, Try.ntmps31
  go_wp2_with (go_at_call 51; refine (CU.out).mono ?_; rintro e w1 ⟨rfl, rfl⟩)
  go_ret
  exact ⟨rfl, rfl⟩
set_option maxRecDepth 1000000 in
theorem clear_none (w : World) (q : Option Addr) (h : NoneP w q) : Calls Try.prog 30 #[.pointer q] w fun e w' => e = .returned (.tuple #[]) ∧ w = w' := by
  have CU := Lib.hid (usable_none w q h)
  clear h
  go_enter Try.func30, Try.ntmps30
  go_wp2_with (go_at_call 51; refine (CU.out).mono ?_; rintro e w1 ⟨rfl, rfl⟩)
  go_end0
  exact ⟨rfl, rfl⟩
set_option maxRecDepth 1000000 in
theorem add_none (w : World) (q : Option Addr) (h : NoneP w q) (p : Int) (A1 A2 : Option Addr) (n1 c1 n2 c2 : Nat) : Calls Try.prog 19 #[.pointer q, editV p (.slice A1 n1 c1) (.slice A2 n2 c2)] w fun e w' => e = .returned (.int .i64 2) ∧ Below w.heap.size w w' := by
  have hb : Below w.heap.size w (w.alloc (.cells #[.int .i64 p, .slice A1 n1 c1, .slice A2 n2 c2] 24)) := (Below.refl _ _).alloc (Nat.le_refl _) _
  have CU := Lib.hid (usable_none _ q (h.below hb))
  have HB := Lib.hid hb
  clear h hb
  go_enter Try.func19, Try.ntmps19
  go_wp2_with (go_at_call 51; refine (CU.out).mono ?_; rintro e w1 ⟨rfl, rfl⟩)
  go_ret
  exact ⟨rfl, HB.out⟩
def gBox (w : World) (b : Nat) (p : Option Addr) : Prop := w.heap[b]? = some (.cells #[.pointer p] 71 (0, 0))
set_option maxRecDepth 1000000 in
theorem groups_none (w : World) (q : Option Addr) (h : NoneP w q) : Calls Try.prog 44 #[.pointer q] w fun e w' => e = .returned (.func (.func 58) #[] #[.pointer (some ⟨w.heap.size, 0, none⟩)]) ∧ gBox w' w.heap.size none ∧ Below w.heap.size w w' := by
  have hb : Below w.heap.size w (w.alloc (.cells #[.pointer none] 71)) := (Below.refl _ _).alloc (Nat.le_refl _) _
  have CU := Lib.hid (usable_none _ q (h.below hb))
  have HB := Lib.hid hb
  clear h hb
  go_enter Try.func44, Try.ntmps44
  go_wp2_with (go_at_call 51; refine (CU.out).mono ?_; rintro e w1 ⟨rfl, rfl⟩)
  go_ret
  exact ⟨rfl, alloc_new _ _, HB.out⟩
set_option maxRecDepth 1000000 in
set_option maxHeartbeats 1000000 in
theorem groups_iter0 (w : World) (b : Nat) (R : Nat → Value → Nat → World → Prop) (hb : gBox w b none) : IterG Try.prog 58 #[.pointer (some ⟨b, 0, none⟩)] (fun k => k = b) 0 R w := by
  intro n l J Jx W hs hJ hJx hY h0
  have hW : gBox W b none := (hs.block b rfl).trans hb
  have cW := cell_of_row W b 0 _ _ _ hW
  have hn : gBox (W.alloc (.cells #[.pointer none] 71)) W.heap.size none := alloc_new _ _
  have CC := count_any (fun _ => False) (W.alloc (.cells #[.pointer none] 71)) W.heap.size [] none (GAt.none (cell_of_row _ _ 0 _ _ _ hn) (by simp) (fun h => h) (fun _ h => h.elim))
  have CC := Lib.hid CC
  have H0 : Hid (J 0 (W.alloc (.cells #[.pointer none] 71))) := Lib.hid (hJ _ _ _ h0 (Touch.alloc _ _ _))
  have hdep : Fence.wide.depth.isSome = false := rfl
  clear hb hs hJ hJx hY h0 hW hn
  refine callsIn_of_wp Try.func58 rfl trivial ?_ rfl
  simp only [Try.ntmps58, List.size_toArray, List.length_cons, List.length_nil, Nat.reduceAdd, Nat.reduceSub, Array.replicate_succ, Array.replicate_zero, List.push_toArray, List.append_toArray, List.nil_append, List.cons_append]
  have hf0 : Fence.wide.fn 56 := trivial
  gi_wp2_with fail
  gi_loopw [4] (fun _ wr => wr = W.alloc (.cells #[.pointer none] 71)) (fun _ _ => 0)
  case atStart => rfl
  case round =>
    subst hrel
    gi_wp2_with (gi_at_call 56; refine (callsIn_wide.2 CC.out).mono ?_; rintro e w1 ⟨rfl, rfl⟩)
    go_end0
    exact ⟨⟨_, rfl⟩, .inl H0.out⟩
end Go.Proofs.Ytjgjbdpknfplkaa
