/-
  A range over a function whose iterator writes nothing but what it makes: the loop's invariant may lean on blocks that the loop's body makes. No program is walked here, and nothing is assumed.
-/
import Derived.Test.YtknekldnipdpeaaKrRange
namespace Go.Proofs.Ytknekldnipdpeaa
open Go.RowKit

/-- AN ITERATOR THAT WRITES NOTHING BUT WHAT IT MAKES: it gives N values in turn, the k-th with R (and what is new from b on is nobody's else), leans on the blocks of T, and writes new blocks alone -/
def IterB (P : Program) (gf : Nat) (lb : Array Value) (T : Nat → Prop) (N : Nat) (R : Nat → Value → Value → Nat → World → Prop) (w : World) : Prop :=
  ∀ (n l : Nat) (J : Nat → World → Prop) (Jx : World → Prop) (W : World), Same T w W →
    (∀ k W1 W2, J k W1 → Below W1.heap.size W1 W2 → J k W2) → (∀ W1 W2, Jx W1 → Below W1.heap.size W1 W2 → Jx W2) →
    (∀ k x y b W1, k < N → R k x y b W1 → W.heap.size ≤ b → J k W1 → YieldAt Fence.wide (n - 1) P l #[x, y] W1 fun e W' => (e = .returned (.bool true) ∧ J (k + 1) W' ∧ Same (fun j => T j ∨ (W.heap.size ≤ j ∧ j < b)) W1 W') ∨ (e = .returned (.bool false) ∧ Jx W')) →
    J 0 W →
    CallsIn Fence.wide n P gf (#[.func (.yield l) #[] #[]] ++ lb) W fun e W' => (∃ v, e = .returned v) ∧ (J N W' ∨ Jx W')

/-- what lies behind the loop's entry -/
theorem range_lawB {P : Program} {n : Nat} {g : Operand} {p q : Tmp} {assign body : Code} {Q : Exit → Act → World → Prop} {a : Act} {w : World} {gf : Nat} {lb : Array Value}
    (hg : a.eval g = .func (.func gf) #[] lb) (eg : ∀ args w, (callFunc gf args).run P w = .ok (.enter gf args) w)
    {T : Nat → Prop} {N : Nat} {R : Nat → Value → Value → Nat → World → Prop} (hit : IterB P gf lb T N R w) (hR : ∀ k x y b W W', R k x y b W → Touch (fun j => j = w.heap.size ∨ j = w.heap.size + 1) W W' → R k x y b W') (hT : ∀ k, T k → k < w.heap.size)
    (I : Nat → World → Prop) (Ix : Code → World → Prop)
    (hI : ∀ k W W', I k W → Touch (fun j => j = w.heap.size ∨ j = w.heap.size + 1) W W' → I k W') (hIx : ∀ c W W', Ix c W → Touch (fun j => j = w.heap.size ∨ j = w.heap.size + 1) W W' → Ix c W')
    (h0 : I 0 w) (a₁ : Value → Value → Act)
    (hassign : ∀ (l : Nat) (x y : Value) (W : World) (K : Act → World → Prop), K (a₁ x y) W →
      assign.wpIn (Fence.wide.inRound l) (n - 1 - 1) P (Exit.then K (fun _ _ _ => False)) { tmps := (a.tmps.setIfInBounds p x).setIfInBounds q y, defers := [] } W)
    (hbody : ∀ (l k : Nat) (x y : Value) (b : Nat) (W : World), k < N → R k x y b W → w.heap.size + 2 ≤ b → I k W → w.heap.size + 1 < W.heap.size → body.wpIn (Fence.wide.inRound l) (n - 1 - 1) P (roundEnd T w.heap.size b I Ix k W) (a₁ x y) W)
    (hdone : ∀ (W : World), I N W → W.heap[w.heap.size]? = some (.deferred (some [])) → Q .normal { a with defers := { target := .collected w.heap.size, args := #[] } :: a.defers } W)
    (hstop : ∀ (c : Code) (W : World), Ix c W → W.heap[w.heap.size]? = some (.deferred (some [])) → c.wpIn Fence.wide n P Q { a with defers := { target := .collected w.heap.size, args := #[] } :: a.defers } W) :
    (Code.rangeFunc g #[p, q] assign body).wpIn Fence.wide n P Q a w := by
  refine wpIn_rangeFunc ?_
  intro fn hfn
  generalize hB : w.heap.size = B at *
  obtain ⟨rec, hrec⟩ : ∃ rec : LoopState → Option Code → Loop, rec = fun st pe => { state := st, pending := pe, fn, tmps := a.tmps, params := #[p, q], assign, body, defers := B } := ⟨_, rfl⟩
  obtain ⟨W1, hW1⟩ : ∃ W1, (w.alloc (.deferred (some []))).alloc (.loop (rec .ready none)) = W1 := ⟨_, rfl⟩
  have hsz : (w.alloc (.deferred (some []))).heap.size = B + 1 := by simp [hB]
  have hL1 : W1.heap[B + 1]? = some (.loop (rec .ready none)) := by
    rw [← hW1]; have := World.alloc_heap_new (w.alloc (.deferred (some []))) (.loop (rec .ready none)); rwa [hsz] at this
  have hK1 : W1.heap[B]? = some (.deferred (some [])) := by
    rw [← hW1, Below.heap_alloc _ _ _ (by rw [hsz]; omega)]; have := World.alloc_heap_new w (.deferred (some [])); rwa [hB] at this
  have hsz1 : W1.heap.size = B + 2 := by rw [← hW1]; simp [hB]
  have ht1 : ∀ U : Nat → Prop, Touch U w W1 := fun U => by rw [← hW1]; exact (Touch.alloc U w _).trans (Touch.alloc U _ _)
  have hs1 : Same T w W1 := Same.of_touch (ht1 (fun _ => False)) fun k hk => ⟨by rw [hB]; exact hT k hk, fun h => h⟩
  have notB : ∀ {j}, T j → j ≠ B ∧ j ≠ B + 1 := fun {j} hj => by have := hT j hj; omega
  refine ⟨B + 1, [{ target := .collected B, args := #[] }], W1, { target := .fn (.func gf) lb, args := #[.func (.yield (B + 1)) #[] #[]] }, W1, gf,
    #[.func (.yield (B + 1)) #[] #[]] ++ lb, W1, ?_, ?_, ?_, ?_, (fun h => by simp [Fence.wide] at h), ?_⟩
  · rw [← hW1, hrec]
    have := run_enterLoop_outer (P := P) (w := w) fn a.tmps #[p, q] assign body
    rw [hB] at this
    exact this
  · simp only [resolve, hg]
    simp [go_sem]
  · intro f' hf'; trivial
  · simp [invoke, go_sem, eg]
  · refine (hit (n - 1) (B + 1)
      (fun k W => I k W ∧ W.heap[B + 1]? = some (.loop (rec .ready none)) ∧ W.heap[B]? = some (.deferred (some [])))
      (fun W => ∃ c, Ix c W ∧ W.heap[B + 1]? = some (.loop (rec .done (some c))) ∧ W.heap[B]? = some (.deferred (some [])))
      W1 hs1 ?_ ?_ ?_ ⟨hI _ _ _ h0 (ht1 _), hL1, hK1⟩).mono ?_
    · rintro k W W' ⟨hi, hl, hk⟩ ht
      have hlt : B + 1 < W.heap.size := (Array.getElem?_eq_some_iff.1 hl).1
      exact ⟨hI _ _ _ hi (Touch.of_below ht), (ht.block _ hlt).trans hl, (ht.block _ (by omega)).trans hk⟩
    · rintro W W' ⟨c, hi, hl, hk⟩ ht
      have hlt : B + 1 < W.heap.size := (Array.getElem?_eq_some_iff.1 hl).1
      exact ⟨c, hIx _ _ _ hi (Touch.of_below ht), (ht.block _ hlt).trans hl, (ht.block _ (by omega)).trans hk⟩
    · rintro k x y b W hkN hx hbW ⟨hi, hl, hk⟩
      rw [hsz1] at hbW
      have hlt : B + 1 < W.heap.size := (Array.getElem?_eq_some_iff.1 hl).1
      have hy := run_yield (P := P) (args := #[x, y]) hl (by rw [hrec]; rfl)
      rw [hrec] at hy
      refine ⟨fn, _, assign, body, hy, roundIn_of_wpIn hfn ?_⟩
      have htm : (Array.zip #[p, q] #[x, y]).foldl (fun tmps (t, a) => tmps.setIfInBounds t a) a.tmps = (a.tmps.setIfInBounds p x).setIfInBounds q y := by simp [Array.zip]
      simp only [htm]
      refine hassign _ x y W _ ⟨_, run_beginRound hl (by rw [hrec]), ?_⟩
      obtain ⟨Wb, hWb⟩ : ∃ Wb, W.putObj (B + 1) (.loop { rec .ready none with state := .busy }) = Wb := ⟨_, rfl⟩
      have hl2 : Wb.heap[B + 1]? = some (.loop { rec .ready none with state := .busy }) := by rw [← hWb]; exact World.putObj_heap_same hlt
      have hk2 : Wb.heap[B]? = some (.deferred (some [])) := by rw [← hWb]; exact (World.putObj_heap_other (by omega)).trans hk
      have ht2 : Touch (fun j => j = B ∨ j = B + 1) W Wb := by rw [← hWb]; exact Touch.putObj _ _ _ (.inr rfl)
      have hnb : ∀ {j}, (T j ∨ (W1.heap.size ≤ j ∧ j < b)) → j ≠ B ∧ j ≠ B + 1 := fun {j} hj => by
        rcases hj with hj | ⟨hj, _⟩
        · exact notB hj
        · rw [hsz1] at hj; omega
      have hs2 : Same (fun j => T j ∨ (W1.heap.size ≤ j ∧ j < b)) W Wb := ⟨ht2.size, fun j hj => by rw [← hWb]; exact World.putObj_heap_other (hnb hj).2⟩
      rw [hWb]
      refine wpIn_mono (hbody _ k x y b Wb hkN (hR _ _ _ _ _ _ hx ht2) hbW (hI _ _ _ hi ht2) (by have := ht2.size; omega)) ?_
      have fin : ∀ (jump : Option Code) (W3 : World), W3.heap[B + 1]? = Wb.heap[B + 1]? → W3.heap[B]? = Wb.heap[B]? →
          (Instr.endRound (B + 1) jump).run P W3 = .ok (.bool jump.isNone) (W3.putObj (B + 1) (.loop (rec (if jump.isNone then .ready else .done) jump))) ∧
          (W3.putObj (B + 1) (.loop (rec (if jump.isNone then .ready else .done) jump))).heap[B + 1]? = some (.loop (rec (if jump.isNone then .ready else .done) jump)) ∧
          (W3.putObj (B + 1) (.loop (rec (if jump.isNone then .ready else .done) jump))).heap[B]? = some (.deferred (some [])) := fun jump W3 e1 e0 => by
        have hl3 := e1.trans hl2
        have := run_endRound (P := P) jump hl3
        rw [hrec] at this ⊢
        exact ⟨this, World.putObj_heap_same (Array.getElem?_eq_some_iff.1 hl3).1, (World.putObj_heap_other (by omega)).trans (e0.trans hk2)⟩
      rintro e a3 W3 hp
      cases e with
      | normal =>
        obtain ⟨hs3, hi3⟩ := hp
        obtain ⟨hr, hl4, hk4⟩ := fin none W3 (hs3.block _ (.inr (.inr (.inl rfl)))) (hs3.block _ (.inr (.inl rfl)))
        refine ⟨_, _, hr, .inl ⟨rfl, ⟨hI _ _ _ hi3 (Touch.putObj _ _ _ (.inr rfl)), hl4, hk4⟩, ?_⟩⟩
        exact hs2.trans ((hs3.mono fun j hj => hj.elim (fun h => .inl h) fun h => .inr (.inr (.inr ⟨by rw [hsz1] at h; omega, h.2⟩))).trans ⟨by simp, fun j hj => World.putObj_heap_other (hnb hj).2⟩)
      | ret =>
        obtain ⟨hs3, hi3⟩ := hp
        obtain ⟨hr, hl4, hk4⟩ := fin (some .ret) W3 (hs3.block _ (.inr rfl)) (hs3.block _ (.inl rfl))
        exact ⟨_, _, hr, .inr ⟨rfl, .ret, hIx _ _ _ hi3 (Touch.putObj _ _ _ (.inr rfl)), hl4, hk4⟩⟩
      | exit id =>
        obtain ⟨hs3, hi3⟩ := hp
        obtain ⟨hr, hl4, hk4⟩ := fin (some (.exit id)) W3 (hs3.block _ (.inr rfl)) (hs3.block _ (.inl rfl))
        exact ⟨_, _, hr, .inr ⟨rfl, .exit id, hIx _ _ _ hi3 (Touch.putObj _ _ _ (.inr rfl)), hl4, hk4⟩⟩
      | goto t =>
        obtain ⟨hs3, hi3⟩ := hp
        obtain ⟨hr, hl4, hk4⟩ := fin (some (.goto t)) W3 (hs3.block _ (.inr rfl)) (hs3.block _ (.inl rfl))
        exact ⟨_, _, hr, .inr ⟨rfl, .goto t, hIx _ _ _ hi3 (Touch.putObj _ _ _ (.inr rfl)), hl4, hk4⟩⟩
      | panic ch => exact hp.elim
      | outgrown => exact hp.elim
    · rintro e W2 ⟨⟨v, rfl⟩, (⟨hi, hl, hk⟩ | ⟨c, hi, hl, hk⟩)⟩
      · exact ⟨none, _, by have := run_endLoop (P := P) hl (by rw [hrec]; simp); rw [hrec] at this; exact this, hdone _ (hI _ _ _ hi (Touch.putObj _ _ _ (.inr rfl))) ((World.putObj_heap_other (by omega)).trans hk)⟩
      · exact ⟨some c, _, by have := run_endLoop (P := P) hl (by rw [hrec]; simp); rw [hrec] at this; exact this, hstop c _ (hIx _ _ _ hi (Touch.putObj _ _ _ (.inr rfl))) ((World.putObj_heap_other (by omega)).trans hk)⟩

/-- the same, where the second of the loop's two values is assigned at once -/
theorem range_lawBs {P : Program} {n : Nat} {g : Operand} {p q : Tmp} {assign body : Code} {Q : Exit → Act → World → Prop} {a : Act} {w : World} {gf : Nat} {lb : Array Value} (q' : Tmp)
    (hg : a.eval g = .func (.func gf) #[] lb) (eg : ∀ args w, (callFunc gf args).run P w = .ok (.enter gf args) w)
    {T : Nat → Prop} {N : Nat} {R : Nat → Value → Value → Nat → World → Prop} (hit : IterB P gf lb T N R w) (hR : ∀ k x y b W W', R k x y b W → Touch (fun j => j = w.heap.size ∨ j = w.heap.size + 1) W W' → R k x y b W') (hT : ∀ k, T k → k < w.heap.size)
    (I : Nat → World → Prop) (Ix : Code → World → Prop)
    (hI : ∀ k W W', I k W → Touch (fun j => j = w.heap.size ∨ j = w.heap.size + 1) W W' → I k W') (hIx : ∀ c W W', Ix c W → Touch (fun j => j = w.heap.size ∨ j = w.heap.size + 1) W W' → Ix c W')
    (h0 : I 0 w)
    (hassign : ∀ (l : Nat) (x y : Value) (W : World) (K : Act → World → Prop), K { tmps := ((a.tmps.setIfInBounds p x).setIfInBounds q y).setIfInBounds q' y, defers := [] } W →
      assign.wpIn (Fence.wide.inRound l) (n - 1 - 1) P (Exit.then K (fun _ _ _ => False)) { tmps := (a.tmps.setIfInBounds p x).setIfInBounds q y, defers := [] } W)
    (hbody : ∀ (l k : Nat) (x y : Value) (b : Nat) (W : World), k < N → R k x y b W → w.heap.size + 2 ≤ b → I k W → w.heap.size + 1 < W.heap.size → body.wpIn (Fence.wide.inRound l) (n - 1 - 1) P (roundEnd T w.heap.size b I Ix k W) { tmps := ((a.tmps.setIfInBounds p x).setIfInBounds q y).setIfInBounds q' y, defers := [] } W)
    (hdone : ∀ (W : World), I N W → W.heap[w.heap.size]? = some (.deferred (some [])) → Q .normal { a with defers := { target := .collected w.heap.size, args := #[] } :: a.defers } W)
    (hstop : ∀ (c : Code) (W : World), Ix c W → W.heap[w.heap.size]? = some (.deferred (some [])) → c.wpIn Fence.wide n P Q { a with defers := { target := .collected w.heap.size, args := #[] } :: a.defers } W) :
    (Code.rangeFunc g #[p, q] assign body).wpIn Fence.wide n P Q a w :=
  range_lawB hg eg hit hR hT I Ix hI hIx h0 (fun x y => { tmps := ((a.tmps.setIfInBounds p x).setIfInBounds q y).setIfInBounds q' y, defers := [] }) hassign hbody hdone hstop
end Go.Proofs.Ytknekldnipdpeaa
