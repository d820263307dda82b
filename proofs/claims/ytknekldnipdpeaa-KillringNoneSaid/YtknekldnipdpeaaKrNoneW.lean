/-
  A ring that no call made: the law holds.
-/
import Derived.Test.YtknekldnipdpeaaKrIter
import Derived.Test.YtknekldnipdpeaaKrLive
namespace Go.Proofs.Ytknekldnipdpeaa
open Go.RowKit Go.Shelf Go.Lib
attribute [local go_sem] Oper.semAt_some

/-- an operation's cells -/
def opRow (a b n st : Int) (v : Value) : Array Value := #[.int .i64 a, .int .i64 b, v, .int .i64 n, .int .i64 st]
/-- what lies while the calls are made: the operation, the answer, the zero ring, the two rings -/
structure NEnv (W : World) (Z : Array Value) (ob zb : Nat) (a b n st : Int) (A : Option Addr) (m c : Nat) : Prop where
  op : W.heap[ob]? = some (.cells (opRow a b n st (.slice A m c)) 32 (0, 0))
  ans : Box W (ob + 1) (.bool false) 4
  lst : W.heap[zb]? = some (.cells Z 58 (0, 0))
  two : W.heap[zb + 1]? = some (.cells #[.pointer none, .pointer (some ⟨zb, 0, none⟩)] 23 (0, 0))
  z0 : Z[0]? = some (.bool false)
section
variable {W W' : World} {Z : Array Value} {ob zb : Nat} {a b n st : Int} {A : Option Addr} {m c : Nat}
theorem NEnv.touch {T : Nat → Prop} (h : NEnv W Z ob zb a b n st A m c) (ht : Touch T W W') (hT : ∀ x, T x → x ≠ ob ∧ x ≠ ob + 1 ∧ x ≠ zb ∧ x ≠ zb + 1) : NEnv W' Z ob zb a b n st A m c :=
  have lt : ∀ {x o}, W.heap[x]? = some o → x < W.heap.size := fun hx => (Array.getElem?_eq_some_iff.1 hx).1
  ⟨(ht.block _ (lt h.op) fun hx => (hT _ hx).1 rfl).trans h.op, (ht.block _ (lt h.ans) fun hx => (hT _ hx).2.1 rfl).trans h.ans, (ht.block _ (lt h.lst) fun hx => (hT _ hx).2.2.1 rfl).trans h.lst, (ht.block _ (lt h.two) fun hx => (hT _ hx).2.2.2 rfl).trans h.two, h.z0⟩
theorem NEnv.below (h : NEnv W Z ob zb a b n st A m c) (hb : Below W.heap.size W W') : NEnv W' Z ob zb a b n st A m c := h.touch (Touch.of_below (T := fun _ => False) hb) fun _ hx => hx.elim
theorem NEnv.none2 (h : NEnv W Z ob zb a b n st A m c) : NoneP W (some ⟨zb, 0, none⟩) := .inr ⟨zb, rfl, (cell_of_row W zb 0 _ _ _ h.lst).trans h.z0, (Array.getElem?_eq_some_iff.1 h.lst).1⟩
theorem NEnv.get (h : NEnv W Z ob zb a b n st A m c) : W.cell? ⟨ob, 1, none⟩ = some (.int .i64 b) ∧ W.cell? ⟨ob, 2, none⟩ = some (.slice A m c) ∧ W.cell? ⟨ob, 3, none⟩ = some (.int .i64 n) ∧
    W.cell? ⟨zb + 1, 0, none⟩ = some (.pointer none) ∧ W.cell? ⟨zb + 1, 1, none⟩ = some (.pointer (some ⟨zb, 0, none⟩)) :=
  ⟨cell_of_row W ob 1 _ _ _ h.op, cell_of_row W ob 2 _ _ _ h.op, cell_of_row W ob 3 _ _ _ h.op, cell_of_row W (zb + 1) 0 _ _ _ h.two, cell_of_row W (zb + 1) 1 _ _ _ h.two⟩
theorem NEnv.lts (h : NEnv W Z ob zb a b n st A m c) : ob < W.heap.size ∧ ob + 1 < W.heap.size ∧ zb < W.heap.size ∧ zb + 1 < W.heap.size :=
  have lt : ∀ {x o}, W.heap[x]? = some o → x < W.heap.size := fun hx => (Array.getElem?_eq_some_iff.1 hx).1
  ⟨lt h.op, lt h.ans, lt h.lst, lt h.two⟩
end
def zring : Array Value := (Value.bool false :: (crow vs0 0 0 ++ [.int .i64 0])).toArray
theorem zring0 : zring[0]? = some (.bool false) := by kernel_rfl
theorem range_none2 {n : Nat} {g : Operand} {p q : Tmp} {body : Code} {Q : Exit → Act → World → Prop} {a : Act} {w : World} {gf : Nat} {lb : Array Value} {R : Nat → Value → Value → Nat → World → Prop}
    (hg : a.eval g = .func (.func gf) #[] lb) (eg : ∀ args w, (callFunc gf args).run Try.prog w = .ok (.enter gf args) w) {T : Nat → Prop} (hit : IterG2 Try.prog gf lb T 0 R w) (hT : ∀ k, T k → k < w.heap.size)
    (hdone : ∀ W : World, Touch (fun j => w.heap.size + 1 ≤ j) w W → W.heap[w.heap.size]? = some (.deferred (some [])) → Q .normal { a with defers := { target := .collected w.heap.size, args := #[] } :: a.defers } W) :
    (Code.rangeFunc g #[p, q] Code.skip body).wpIn Fence.wide n Try.prog Q a w := by
  refine range_law2 hg eg (IterG2.weak (R' := fun k _ _ _ _ => k < 0 ∨ True) hit fun _ _ _ _ _ _ => .inr trivial) (fun _ _ _ _ _ _ _ _ _ => .inr trivial) hT (fun _ W => Touch (fun j => w.heap.size + 1 ≤ j) w W) (fun _ _ => False) (fun _ _ _ h k => h.trans k) (fun _ _ _ h _ => h) (Touch.refl _ _) (fun x y => { tmps := (a.tmps.setIfInBounds p x).setIfInBounds q y, defers := [] }) ?_ ?_ (fun W h k => hdone W h k) (fun _ _ h => h.elim)
  · intro l x y W K hK
    gi_wp2_with fail
    exact hK
  · intro l k x y b W hx
    omega
set_option maxRecDepth 100000 in
set_option maxHeartbeats 4000000 in
theorem none_walk (ka kb kn ks : Int) (A : Option Addr) (m c : Nat) (w : World) :
    Calls Try.prog 8 #[.agg #[.int .i64 ka, .int .i64 kb, .slice A m c, .int .i64 kn, .int .i64 ks]] w fun e w' => e = .returned (.bool true) ∧ Below w.heap.size w w' := by
  refine (callsIn_wide (n := 8)).1 ?_
  refine callsIn_of_wp_marks Try.func8 rfl trivial ?_ rfl
  simp only [Try.ntmps8, List.size_toArray, List.length_cons, List.length_nil, Nat.reduceAdd, Nat.reduceSub, Array.replicate_succ, Array.replicate_zero, List.push_toArray, List.append_toArray, List.nil_append, List.cons_append]
  have hdep : Fence.wide.depth.isSome = false := rfl
  have hf0 : Fence.wide.fn 10 := trivial
  have hf1 : Fence.wide.fn 13 := trivial
  have hf2 : Fence.wide.fn 15 := trivial
  have hf3 : Fence.wide.fn 11 := trivial
  have hf4 : Fence.wide.fn 22 := trivial
  have hf5 : Fence.wide.fn 17 := trivial
  have hf6 : Fence.wide.fn 23 := trivial
  have hZ := rz_lit
  rw [show (Value.bool false :: (crow vs0 0 0 ++ [.int .i64 0])).toArray = zring from rfl] at hZ
  have HZ := Lib.hid hZ
  clear hZ
  have hz0 := zring0
  generalize zring = Z at *
  gi_wp2_with (gi_at_call 10; refine (callsIn_wide.2 (live_any _)).mono ?_; rintro e w1 ⟨rfl, hb1⟩; have HB1 := Lib.hid hb1; clear hb1)
  rw [HZ.out]
  have hE : NEnv ((w1.alloc (.cells Z 58)).alloc (.cells #[.pointer none, .pointer (some ⟨w1.heap.size, 0, none⟩)] 23)) Z w.heap.size w1.heap.size ka kb kn ks A m c := by
    have hz : (w.alloc (.cells #[.int .i64 ka, .int .i64 kb, .slice A m c, .int .i64 kn, .int .i64 ks] 32)).heap.size = w.heap.size + 1 := by simp
    have hs : w.heap.size + 2 ≤ w1.heap.size := by have := HB1.out.size; simp at this; omega
    have hold : ∀ x, x < w.heap.size + 2 → ((w1.alloc (.cells Z 58)).alloc (.cells #[.pointer none, .pointer (some ⟨w1.heap.size, 0, none⟩)] 23)).heap[x]? =
        ((w.alloc (.cells #[.int .i64 ka, .int .i64 kb, .slice A m c, .int .i64 kn, .int .i64 ks] 32)).alloc (.cells #[.bool false] 4)).heap[x]? := fun x hx => by
      rw [Below.heap_alloc _ _ _ (by simp; omega), Below.heap_alloc _ _ _ (by omega)]
      exact HB1.out.block x (by simp; omega)
    have hz1 : (w1.alloc (.cells Z 58)).heap.size = w1.heap.size + 1 := by simp
    refine ⟨?_, ?_, ?_, ?_, hz0⟩
    · show _ = _
      rw [hold _ (by omega), Below.heap_alloc _ _ _ (by omega)]
      exact World.alloc_heap_new w _
    · show _ = _
      rw [hold _ (by omega)]
      have := World.alloc_heap_new (w.alloc (.cells #[.int .i64 ka, .int .i64 kb, .slice A m c, .int .i64 kn, .int .i64 ks] 32)) (.cells #[.bool false] 4)
      rwa [hz] at this
    · rw [Below.heap_alloc _ _ _ (by omega)]
      exact World.alloc_heap_new w1 _
    · have := World.alloc_heap_new (w1.alloc (.cells Z 58)) (.cells #[.pointer none, .pointer (some ⟨w1.heap.size, 0, none⟩)] 23)
      rwa [hz1] at this
  have hW : Below w.heap.size w ((w1.alloc (.cells Z 58)).alloc (.cells #[.pointer none, .pointer (some ⟨w1.heap.size, 0, none⟩)] 23)) := by
    have hs : w.heap.size + 2 ≤ w1.heap.size := by have := HB1.out.size; simp at this; omega
    exact (((((Below.refl _ w).alloc (Nat.le_refl _) _).alloc (by simp) _).trans (HB1.out.mono (by simp; omega))).alloc (by omega) _).alloc (by simp; omega) _
  generalize (w1.alloc (.cells Z 58)).alloc (.cells #[.pointer none, .pointer (some ⟨w1.heap.size, 0, none⟩)] 23) = W0 at *
  generalize w1.heap.size = zb at *
  obtain ⟨c1', c2', c3', c4', c5'⟩ := hE.get
  have HE := Lib.hid hE
  have HB := Lib.hid hW
  clear hE hW HB1 hz0 HZ
  refine wpIn_loop_rounds 3 ?_
  rw [roundsIn_succ]
  gi_wp2_with (first
    | (gi_at_call 13; refine (callsIn_wide.2 (yank_n _ _ (.inl rfl))).mono ?_; rintro e W ⟨rfl, rfl⟩)
    | (gi_at_call 15; refine (callsIn_wide.2 (rotate_n _ _ (.inl rfl) _)).mono ?_; rintro e W ⟨rfl, rfl⟩)
    | (gi_at_call 11; refine (callsIn_wide.2 (kill_n _ _ (.inl rfl) _ _)).mono ?_; rintro e W ⟨rfl, rfl⟩)
    | (gi_at_call 22; refine (callsIn_wide.2 (len_n _ _ (.inl rfl))).mono ?_; rintro e W ⟨rfl, rfl⟩)
    | (gi_at_call 17; refine (callsIn_wide.2 (clone_n _ _ (.inl rfl))).mono ?_; rintro e W ⟨rfl, rfl⟩)
    | (gi_at_call 23; refine (callsIn_wide.2 (all_n _ _ (.inl rfl))).mono ?_; rintro e W ⟨rfl, hg, hb⟩; have G := Lib.hid hg; replace HB := Lib.hid (HB.out.trans (hb.mono HB.out.size)); replace HE := Lib.hid (HE.out.below hb); clear hg hb c1' c2' c3' c4' c5'; obtain ⟨c1', c2', c3', c4', c5'⟩ := HE.out.get))
  refine range_none2 rfl (enters_of Try.func34 (by kernel_rfl) rfl) (all_iter _ _ _ G.out (fun _ h => h.elim)) (fun k hk => hk.elim (fun h => h.elim) fun hk => by subst hk; exact G.out.lt) ?_
  intro W2 hT2 hK2
  obtain ⟨b1, hb1⟩ : ∃ b1, b1 = W.heap.size := ⟨_, rfl⟩
  have hlts := HE.out.lts
  have hE2 := HE.out.touch hT2 fun x hx => by omega
  have hB2 := HB.out.trans (hT2.below HB.out.size fun k hk => by have := HB.out.size; omega)
  have hge1 : w.heap.size ≤ b1 := by rw [hb1]; exact HB.out.size
  have hob1 : w.heap.size + 1 < b1 := by omega
  rw [← hb1] at hK2
  rw [← hb1]
  have hlt1 : b1 < W2.heap.size := (Array.getElem?_eq_some_iff.1 hK2).1
  have HGE1 := Lib.hid hge1
  have HOB1 := Lib.hid hob1
  have HK1 := Lib.hid hK2
  have HB1 := Lib.hid hB2
  have HLT1 := Lib.hid hlt1
  replace HE := Lib.hid hE2
  replace HB := Lib.hid (Below.refl W2.heap.size W2)
  clear hge1 hob1 hT2 hK2 hE2 hB2 hlt1 hb1 hlts G c1' c2' c3' c4' c5'
  obtain ⟨c1', c2', c3', c4', c5'⟩ := HE.out.get
  gi_wp2_with fail
  rw [roundsIn_succ]
  gi_wp2_with (first
    | (gi_at_call 13; refine (callsIn_wide.2 (yank_n _ _ HE.out.none2)).mono ?_; rintro e W ⟨rfl, rfl⟩)
    | (gi_at_call 15; refine (callsIn_wide.2 (rotate_n _ _ HE.out.none2 _)).mono ?_; rintro e W ⟨rfl, rfl⟩)
    | (gi_at_call 11; refine (callsIn_wide.2 (kill_n _ _ HE.out.none2 _ _)).mono ?_; rintro e W ⟨rfl, rfl⟩)
    | (gi_at_call 22; refine (callsIn_wide.2 (len_n _ _ HE.out.none2)).mono ?_; rintro e W ⟨rfl, rfl⟩)
    | (gi_at_call 17; refine (callsIn_wide.2 (clone_n _ _ HE.out.none2)).mono ?_; rintro e W ⟨rfl, rfl⟩)
    | (gi_at_call 23; refine (callsIn_wide.2 (all_n _ _ HE.out.none2)).mono ?_; rintro e W ⟨rfl, hg, hb⟩; have G := Lib.hid hg; replace HB := Lib.hid (HB.out.trans (hb.mono HB.out.size)); replace HE := Lib.hid (HE.out.below hb); clear hg hb c1' c2' c3' c4' c5'; obtain ⟨c1', c2', c3', c4', c5'⟩ := HE.out.get))
  refine range_none2 rfl (enters_of Try.func34 (by kernel_rfl) rfl) (all_iter _ _ _ G.out (fun _ h => h.elim)) (fun k hk => hk.elim (fun h => h.elim) fun hk => by subst hk; exact G.out.lt) ?_
  intro W3 hT3 hK3
  have hlts := HE.out.lts
  have hE3 := HE.out.touch hT3 fun x hx => by omega
  have hB3 : Below W2.heap.size W2 W3 := HB.out.trans (hT3.below HB.out.size fun k hk => by have := HB.out.size; omega)
  have hK1 : W3.heap[b1]? = some (.deferred (some [])) := (hB3.block _ HLT1.out).trans HK1.out
  obtain ⟨b2, hb2⟩ : ∃ b2, b2 = W.heap.size := ⟨_, rfl⟩
  have hb12 : b1 < b2 := by have := HLT1.out; have := HB.out.size; omega
  rw [← hb2] at hK3
  rw [← hb2]
  have HK1' := Lib.hid hK1
  have HK2 := Lib.hid hK3
  have HB3 := Lib.hid hB3
  have HB12 := Lib.hid hb12
  have hans := hE3.ans
  have hac := hans.cell
  have haf := hans.frozen
  have HE3 := Lib.hid hE3
  clear hT3 hK3 hE3 hB3 hK1 hb2 hb12 hans hlts c1' c2' c3' c4' c5'
  gi_wp2_with fail
  rw [roundsIn_succ]
  gi_wp2_with fail
  have hw1 : ∀ x, x ≠ w.heap.size + 1 → (W3.setCell ⟨w.heap.size + 1, 0, none⟩ (.bool true)).heap[x]? = W3.heap[x]? := fun x hx => Below.heap_setCell _ _ _ x hx
  have hnb : ∀ {x}, W3.heap[x]? = some (.deferred (some [])) → x ≠ w.heap.size + 1 := fun {x} hx e => by rw [e, HE3.out.ans] at hx; cases hx
  have hd2 := (hw1 b2 (hnb HK2.out)).trans HK2.out
  have hd1 := (hw1 b1 (hnb HK1'.out)).trans HK1'.out
  refine ⟨by simp, .inl ⟨_, _, rfl, run_takeDeferred hd2, ?_⟩⟩
  have hd1' := (World.putObj_heap_other (w := W3.setCell ⟨w.heap.size + 1, 0, none⟩ (.bool true)) (r := b2) (o := .deferred none) (show b1 ≠ b2 by have := HB12.out; omega)).trans hd1
  refine ⟨by simp, .inl ⟨_, _, rfl, run_takeDeferred hd1', ?_⟩⟩
  have hne1 : w.heap.size + 1 ≠ b1 := fun e => hnb HK1'.out e.symm
  have hne2 : w.heap.size + 1 ≠ b2 := fun e => hnb HK2.out e.symm
  have hbx : Box (((W3.setCell ⟨w.heap.size + 1, 0, none⟩ (.bool true)).putObj b2 (.deferred none)).putObj b1 (.deferred none)) (w.heap.size + 1) (.bool true) 4 :=
    ((HE3.out.ans.set (.bool true)).same (World.putObj_heap_other hne2)).same (World.putObj_heap_other hne1)
  have hc := hbx.cell
  have hge := HGE1.out
  have hlt := HB12.out
  refine ⟨.bool true, by simp [results, Try.results8, go_sem, hc], rfl, ?_⟩
  have hB3 := HB1.out.trans (HB3.out.mono HB1.out.size)
  have hS : Below w.heap.size w (W3.setCell ⟨w.heap.size + 1, 0, none⟩ (.bool true)) := hB3.setCell (p := ⟨w.heap.size + 1, 0, none⟩) (Nat.le_succ _) _
  have hP2 := hS.trans ((Touch.putObj (T := fun x => x = b2) _ b2 (.deferred none) rfl).below hS.size fun x hx => by omega)
  exact hP2.trans ((Touch.putObj (T := fun x => x = b1) _ b1 (.deferred none) rfl).below hP2.size fun x hx => by omega)
end Go.Proofs.Ytknekldnipdpeaa
