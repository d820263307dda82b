/-
  A range over a function whose iterator makes blocks of its own and gives two values a round, the second of which lies in them: what the iterator and the loop's body owe each other, and the law for the statement. No program is walked here, and nothing is assumed.
-/
import Derived.RangeFuncNested
import Derived.RangeFuncBound
import Derived.RangeFuncLeaves
import Derived.Test.YtojhppcnpjajaaaHlRow
namespace Go.Proofs.Ytojhppcnpjajaaa
open Go.RowKit

theorem Touch.putObj {T : Nat → Prop} (w : World) (r : Nat) (o : Obj) (h : T r) : Touch T w (w.putObj r o) :=
  ⟨rfl, rfl, rfl, by simp, fun _ _ ht => World.putObj_heap_other fun e => ht (e ▸ h)⟩
/-- the blocks of T lie in w' as in w -/
structure Same (T : Nat → Prop) (w w' : World) : Prop where
  size : w.heap.size ≤ w'.heap.size
  block : ∀ k, T k → w'.heap[k]? = w.heap[k]?
theorem Same.refl (T : Nat → Prop) (w : World) : Same T w w := ⟨Nat.le_refl _, fun _ _ => rfl⟩
theorem Same.trans {T : Nat → Prop} {a b c : World} (h : Same T a b) (k : Same T b c) : Same T a c := ⟨Nat.le_trans h.size k.size, fun i hi => (k.block i hi).trans (h.block i hi)⟩
theorem Same.mono {T T' : Nat → Prop} {a b : World} (h : Same T a b) (hT : ∀ k, T' k → T k) : Same T' a b := ⟨h.size, fun i hi => h.block i (hT i hi)⟩
theorem Same.of_touch {T U : Nat → Prop} {a b : World} (h : Touch U a b) (hT : ∀ k, T k → k < a.heap.size ∧ ¬ U k) : Same T a b := ⟨h.size, fun k hk => h.block k (hT k hk).1 (hT k hk).2⟩

/-- AN ITERATOR: it gives N values in turn, the k-th with R (and what is new from b on is nobody's else), leans on the blocks of T, and writes new blocks alone -/
def IterG2 (P : Program) (gf : Nat) (lb : Array Value) (T : Nat → Prop) (N : Nat) (R : Nat → Value → Value → Nat → World → Prop) (w : World) : Prop :=
  ∀ (n l : Nat) (J : Nat → World → Prop) (Jx : World → Prop) (W : World), Same T w W →
    (∀ k W1 W2, J k W1 → Touch (fun j => W.heap.size ≤ j) W1 W2 → J k W2) → (∀ W1 W2, Jx W1 → Touch (fun j => W.heap.size ≤ j) W1 W2 → Jx W2) →
    (∀ k x y b W1, k < N → R k x y b W1 → W.heap.size ≤ b → J k W1 → YieldAt Fence.wide (n - 1) P l #[x, y] W1 fun e W' => (e = .returned (.bool true) ∧ J (k + 1) W' ∧ Same (fun j => T j ∨ (W.heap.size ≤ j ∧ j < b)) W1 W') ∨ (e = .returned (.bool false) ∧ Jx W')) →
    J 0 W →
    CallsIn Fence.wide n P gf (#[.func (.yield l) #[] #[]] ++ lb) W fun e W' => (∃ v, e = .returned v) ∧ (J N W' ∨ Jx W')

/-- how a round's body may be left; B, B + 1: the loop's own two blocks -/
def roundEnd (T : Nat → Prop) (B b : Nat) (I : Nat → World → Prop) (Ix : Code → World → Prop) (k : Nat) (W : World) : Exit → Act → World → Prop
  | .normal, _, W' => Same (fun j => T j ∨ j = B ∨ j = B + 1 ∨ (B + 2 ≤ j ∧ j < b)) W W' ∧ I (k + 1) W'
  | .ret, _, W' => Same (fun j => j = B ∨ j = B + 1) W W' ∧ Ix .ret W'
  | .exit id, _, W' => Same (fun j => j = B ∨ j = B + 1) W W' ∧ Ix (.exit id) W'
  | .goto t, _, W' => Same (fun j => j = B ∨ j = B + 1) W W' ∧ Ix (.goto t) W'
  | .panic _, _, _ => False
  | .outgrown, _, _ => False

/-- what lies behind the loop's entry -/
theorem range_law2 {P : Program} {n : Nat} {g : Operand} {p q : Tmp} {assign body : Code} {Q : Exit → Act → World → Prop} {a : Act} {w : World} {gf : Nat} {lb : Array Value}
    (hg : a.eval g = .func (.func gf) #[] lb) (eg : ∀ args w, (callFunc gf args).run P w = .ok (.enter gf args) w)
    {T : Nat → Prop} {N : Nat} {R : Nat → Value → Value → Nat → World → Prop} (hit : IterG2 P gf lb T N R w) (hR : ∀ k x y b W W', R k x y b W → W.heap.size ≤ W'.heap.size → (∀ j, w.heap.size + 2 ≤ j → W'.heap[j]? = W.heap[j]?) → R k x y b W') (hT : ∀ k, T k → k < w.heap.size)
    (I : Nat → World → Prop) (Ix : Code → World → Prop)
    (hI : ∀ k W W', I k W → Touch (fun j => w.heap.size + 1 ≤ j) W W' → I k W') (hIx : ∀ c W W', Ix c W → Touch (fun j => w.heap.size + 1 ≤ j) W W' → Ix c W')
    (h0 : I 0 w) (a₁ : Value → Value → Act)
    (hassign : ∀ (l : Nat) (x y : Value) (W : World) (K : Act → World → Prop), K (a₁ x y) W →
      assign.wpIn (Fence.wide.inRound l) (n - 1 - 1) P (Exit.then K (fun _ _ _ => False)) { tmps := (a.tmps.setIfInBounds p x).setIfInBounds q y, defers := [] } W)
    (hbody : ∀ (l k : Nat) (x y : Value) (b : Nat) (W : World), k < N → R k x y b W → w.heap.size + 2 ≤ b → I k W → w.heap.size + 1 < W.heap.size → body.wpIn (Fence.wide.inRound l) (n - 1 - 1) P (roundEnd T w.heap.size b I Ix k W) (a₁ x y) W)
    (hdone : ∀ (W : World), I N W → W.heap[w.heap.size]? = some (.deferred (some [])) → Q .normal { a with defers := { target := .collected w.heap.size, args := #[] } :: a.defers } W)
    (hstop : ∀ (c : Code) (W : World), Ix c W → W.heap[w.heap.size]? = some (.deferred (some [])) → c.wpIn Fence.wide n P Q { a with defers := { target := .collected w.heap.size, args := #[] } :: a.defers } W) :
    (Code.rangeFunc g #[p, q] assign body).wpIn Fence.wide n P Q a w := by
  refine wpIn_rangeFunc ?_
  intro fn hfn
  generalize hB : w.heap.size = B at *
  obtain ⟨rec, hrec⟩ : ∃ rec : LoopState → Option Code → Loop, rec = fun st pe => { state := st, pending := pe, fn, tmps := a.tmps, params := #[p, q], assign, body, defers := B } := ⟨_, rfl⟩
  obtain ⟨W1, hW1⟩ : ∃ W1, (w.alloc (.deferred (some []))).alloc (.loop (rec .ready none)) = W1 := ⟨_, rfl⟩
  have hsz : (w.alloc (.deferred (some []))).heap.size = B + 1 := by simp [hB]
  have hL1 : W1.heap[B + 1]? = some (.loop (rec .ready none)) := by
    rw [← hW1]; have := World.alloc_heap_new (w.alloc (.deferred (some []))) (.loop (rec .ready none)); rwa [hsz] at this
  have hK1 : W1.heap[B]? = some (.deferred (some [])) := by
    rw [← hW1, Below.heap_alloc _ _ _ (by rw [hsz]; omega)]; have := World.alloc_heap_new w (.deferred (some [])); rwa [hB] at this
  have hsz1 : W1.heap.size = B + 2 := by rw [← hW1]; simp [hB]
  have ht1 : ∀ U : Nat → Prop, Touch U w W1 := fun U => by rw [← hW1]; exact (Touch.alloc U w _).trans (Touch.alloc U _ _)
  have hs1 : Same T w W1 := Same.of_touch (ht1 (fun _ => False)) fun k hk => ⟨by rw [hB]; exact hT k hk, fun h => h⟩
  have notB : ∀ {j}, T j → j ≠ B ∧ j ≠ B + 1 := fun {j} hj => by have := hT j hj; omega
  refine ⟨B + 1, [{ target := .collected B, args := #[] }], W1, { target := .fn (.func gf) lb, args := #[.func (.yield (B + 1)) #[] #[]] }, W1, gf,
    #[.func (.yield (B + 1)) #[] #[]] ++ lb, W1, ?_, ?_, ?_, ?_, (fun h => by simp [Fence.wide] at h), ?_⟩
  · rw [← hW1, hrec]
    have := run_enterLoop_outer (P := P) (w := w) fn a.tmps #[p, q] assign body
    rw [hB] at this
    exact this
  · simp only [resolve, hg]
    simp [go_sem]
  · intro f' hf'; trivial
  · simp [invoke, go_sem, eg]
  · refine (hit (n - 1) (B + 1)
      (fun k W => I k W ∧ W.heap[B + 1]? = some (.loop (rec .ready none)) ∧ W.heap[B]? = some (.deferred (some [])))
      (fun W => ∃ c, Ix c W ∧ W.heap[B + 1]? = some (.loop (rec .done (some c))) ∧ W.heap[B]? = some (.deferred (some [])))
      W1 hs1 ?_ ?_ ?_ ⟨hI _ _ _ h0 (ht1 _), hL1, hK1⟩).mono ?_
    · rintro k W W' ⟨hi, hl, hk⟩ ht
      have hlt : B + 1 < W.heap.size := (Array.getElem?_eq_some_iff.1 hl).1
      exact ⟨hI _ _ _ hi (ht.mono fun j _ hj => by rw [hsz1] at hj; omega), (ht.block _ hlt fun h => by rw [hsz1] at h; omega).trans hl, (ht.block _ (by omega) fun h => by rw [hsz1] at h; omega).trans hk⟩
    · rintro W W' ⟨c, hi, hl, hk⟩ ht
      have hlt : B + 1 < W.heap.size := (Array.getElem?_eq_some_iff.1 hl).1
      exact ⟨c, hIx _ _ _ hi (ht.mono fun j _ hj => by rw [hsz1] at hj; omega), (ht.block _ hlt fun h => by rw [hsz1] at h; omega).trans hl, (ht.block _ (by omega) fun h => by rw [hsz1] at h; omega).trans hk⟩
    · rintro k x y b W hkN hx hbW ⟨hi, hl, hk⟩
      rw [hsz1] at hbW
      have hlt : B + 1 < W.heap.size := (Array.getElem?_eq_some_iff.1 hl).1
      have hy := run_yield (P := P) (args := #[x, y]) hl (by rw [hrec]; rfl)
      rw [hrec] at hy
      refine ⟨fn, _, assign, body, hy, roundIn_of_wpIn hfn ?_⟩
      have htm : (Array.zip #[p, q] #[x, y]).foldl (fun tmps (t, a) => tmps.setIfInBounds t a) a.tmps = (a.tmps.setIfInBounds p x).setIfInBounds q y := by simp [Array.zip]
      simp only [htm]
      refine hassign _ x y W _ ⟨_, run_beginRound hl (by rw [hrec]), ?_⟩
      obtain ⟨Wb, hWb⟩ : ∃ Wb, W.putObj (B + 1) (.loop { rec .ready none with state := .busy }) = Wb := ⟨_, rfl⟩
      have hl2 : Wb.heap[B + 1]? = some (.loop { rec .ready none with state := .busy }) := by rw [← hWb]; exact World.putObj_heap_same hlt
      have hk2 : Wb.heap[B]? = some (.deferred (some [])) := by rw [← hWb]; exact (World.putObj_heap_other (by omega)).trans hk
      have ht2 : Touch (fun j => B + 1 ≤ j) W Wb := by rw [← hWb]; exact Touch.putObj _ _ _ (Nat.le_refl _)
      have hnb : ∀ {j}, (T j ∨ (W1.heap.size ≤ j ∧ j < b)) → j ≠ B ∧ j ≠ B + 1 := fun {j} hj => by
        rcases hj with hj | ⟨hj, _⟩
        · exact notB hj
        · rw [hsz1] at hj; omega
      have hs2 : Same (fun j => T j ∨ (W1.heap.size ≤ j ∧ j < b)) W Wb := ⟨ht2.size, fun j hj => by rw [← hWb]; exact World.putObj_heap_other (hnb hj).2⟩
      rw [hWb]
      refine wpIn_mono (hbody _ k x y b Wb hkN (hR _ _ _ _ _ _ hx ht2.size fun j hj => by rw [← hWb]; exact World.putObj_heap_other (by omega)) hbW (hI _ _ _ hi ht2) (by have := ht2.size; omega)) ?_
      have fin : ∀ (jump : Option Code) (W3 : World), W3.heap[B + 1]? = Wb.heap[B + 1]? → W3.heap[B]? = Wb.heap[B]? →
          (Instr.endRound (B + 1) jump).run P W3 = .ok (.bool jump.isNone) (W3.putObj (B + 1) (.loop (rec (if jump.isNone then .ready else .done) jump))) ∧
          (W3.putObj (B + 1) (.loop (rec (if jump.isNone then .ready else .done) jump))).heap[B + 1]? = some (.loop (rec (if jump.isNone then .ready else .done) jump)) ∧
          (W3.putObj (B + 1) (.loop (rec (if jump.isNone then .ready else .done) jump))).heap[B]? = some (.deferred (some [])) := fun jump W3 e1 e0 => by
        have hl3 := e1.trans hl2
        have := run_endRound (P := P) jump hl3
        rw [hrec] at this ⊢
        exact ⟨this, World.putObj_heap_same (Array.getElem?_eq_some_iff.1 hl3).1, (World.putObj_heap_other (by omega)).trans (e0.trans hk2)⟩
      rintro e a3 W3 hp
      cases e with
      | normal =>
        obtain ⟨hs3, hi3⟩ := hp
        obtain ⟨hr, hl4, hk4⟩ := fin none W3 (hs3.block _ (.inr (.inr (.inl rfl)))) (hs3.block _ (.inr (.inl rfl)))
        refine ⟨_, _, hr, .inl ⟨rfl, ⟨hI _ _ _ hi3 (Touch.putObj _ _ _ (Nat.le_refl _)), hl4, hk4⟩, ?_⟩⟩
        exact hs2.trans ((hs3.mono fun j hj => hj.elim (fun h => .inl h) fun h => .inr (.inr (.inr ⟨by rw [hsz1] at h; omega, h.2⟩))).trans ⟨by simp, fun j hj => World.putObj_heap_other (hnb hj).2⟩)
      | ret =>
        obtain ⟨hs3, hi3⟩ := hp
        obtain ⟨hr, hl4, hk4⟩ := fin (some .ret) W3 (hs3.block _ (.inr rfl)) (hs3.block _ (.inl rfl))
        exact ⟨_, _, hr, .inr ⟨rfl, .ret, hIx _ _ _ hi3 (Touch.putObj _ _ _ (Nat.le_refl _)), hl4, hk4⟩⟩
      | exit id =>
        obtain ⟨hs3, hi3⟩ := hp
        obtain ⟨hr, hl4, hk4⟩ := fin (some (.exit id)) W3 (hs3.block _ (.inr rfl)) (hs3.block _ (.inl rfl))
        exact ⟨_, _, hr, .inr ⟨rfl, .exit id, hIx _ _ _ hi3 (Touch.putObj _ _ _ (Nat.le_refl _)), hl4, hk4⟩⟩
      | goto t =>
        obtain ⟨hs3, hi3⟩ := hp
        obtain ⟨hr, hl4, hk4⟩ := fin (some (.goto t)) W3 (hs3.block _ (.inr rfl)) (hs3.block _ (.inl rfl))
        exact ⟨_, _, hr, .inr ⟨rfl, .goto t, hIx _ _ _ hi3 (Touch.putObj _ _ _ (Nat.le_refl _)), hl4, hk4⟩⟩
      | panic ch => exact hp.elim
      | outgrown => exact hp.elim
    · rintro e W2 ⟨⟨v, rfl⟩, (⟨hi, hl, hk⟩ | ⟨c, hi, hl, hk⟩)⟩
      · exact ⟨none, _, by have := run_endLoop (P := P) hl (by rw [hrec]; simp); rw [hrec] at this; exact this, hdone _ (hI _ _ _ hi (Touch.putObj _ _ _ (Nat.le_refl _))) ((World.putObj_heap_other (by omega)).trans hk)⟩
      · exact ⟨some c, _, by have := run_endLoop (P := P) hl (by rw [hrec]; simp); rw [hrec] at this; exact this, hstop c _ (hIx _ _ _ hi (Touch.putObj _ _ _ (Nat.le_refl _))) ((World.putObj_heap_other (by omega)).trans hk)⟩

/-- an iterator whose values need no memory -/
abbrev IterV (P : Program) (gf : Nat) (lb : Array Value) (T : Nat → Prop) (N : Nat) (R : Nat → Value → Value → Prop) (w : World) : Prop := IterG2 P gf lb T N (fun k x y b W => b ≤ W.heap.size ∧ R k x y) w
/-- the same, where the values need no memory, and the loop's variables may be boxed: mk says what the assignment makes -/
theorem range_law2m {P : Program} {n : Nat} {g : Operand} {p q : Tmp} {assign body : Code} {Q : Exit → Act → World → Prop} {a : Act} {w : World} {gf : Nat} {lb : Array Value}
    (hg : a.eval g = .func (.func gf) #[] lb) (eg : ∀ args w, (callFunc gf args).run P w = .ok (.enter gf args) w)
    {T : Nat → Prop} {N : Nat} {R : Nat → Value → Value → Prop} (hit : IterV P gf lb T N R w) (hT : ∀ k, T k → k < w.heap.size)
    (I : Nat → World → Prop) (Ix : Code → World → Prop)
    (hI : ∀ k W W', I k W → Touch (fun j => w.heap.size + 1 ≤ j) W W' → I k W') (hIx : ∀ c W W', Ix c W → Touch (fun j => w.heap.size + 1 ≤ j) W W' → Ix c W')
    (h0 : I 0 w) (mk : Value → Value → World → World) (hmk : ∀ x y W, Below W.heap.size W (mk x y W)) (a₁ : Value → Value → World → Act)
    (hassign : ∀ (l k : Nat) (x y : Value) (W : World) (K : Act → World → Prop), R k x y → K (a₁ x y W) (mk x y W) →
      assign.wpIn (Fence.wide.inRound l) (n - 1 - 1) P (Exit.then K (fun _ _ _ => False)) { tmps := (a.tmps.setIfInBounds p x).setIfInBounds q y, defers := [] } W)
    (hbody : ∀ (l k : Nat) (x y : Value) (V W : World), k < N → R k x y → I k W → w.heap.size + 1 < V.heap.size → (∀ j, V.heap.size ≤ j → W.heap[j]? = (mk x y V).heap[j]?) → W.heap.size = (mk x y V).heap.size → Below V.heap.size V (mk x y V) → body.wpIn (Fence.wide.inRound l) (n - 1 - 1) P (roundEnd T w.heap.size V.heap.size I Ix k W) (a₁ x y V) W)
    (hdone : ∀ (W : World), I N W → W.heap[w.heap.size]? = some (.deferred (some [])) → Q .normal { a with defers := { target := .collected w.heap.size, args := #[] } :: a.defers } W)
    (hstop : ∀ (c : Code) (W : World), Ix c W → W.heap[w.heap.size]? = some (.deferred (some [])) → c.wpIn Fence.wide n P Q { a with defers := { target := .collected w.heap.size, args := #[] } :: a.defers } W) :
    (Code.rangeFunc g #[p, q] assign body).wpIn Fence.wide n P Q a w := by
  refine wpIn_rangeFunc ?_
  intro fn hfn
  generalize hB : w.heap.size = B at *
  obtain ⟨rec, hrec⟩ : ∃ rec : LoopState → Option Code → Loop, rec = fun st pe => { state := st, pending := pe, fn, tmps := a.tmps, params := #[p, q], assign, body, defers := B } := ⟨_, rfl⟩
  obtain ⟨W1, hW1⟩ : ∃ W1, (w.alloc (.deferred (some []))).alloc (.loop (rec .ready none)) = W1 := ⟨_, rfl⟩
  have hsz : (w.alloc (.deferred (some []))).heap.size = B + 1 := by simp [hB]
  have hL1 : W1.heap[B + 1]? = some (.loop (rec .ready none)) := by
    rw [← hW1]; have := World.alloc_heap_new (w.alloc (.deferred (some []))) (.loop (rec .ready none)); rwa [hsz] at this
  have hK1 : W1.heap[B]? = some (.deferred (some [])) := by
    rw [← hW1, Below.heap_alloc _ _ _ (by rw [hsz]; omega)]; have := World.alloc_heap_new w (.deferred (some [])); rwa [hB] at this
  have hsz1 : W1.heap.size = B + 2 := by rw [← hW1]; simp [hB]
  have ht1 : ∀ U : Nat → Prop, Touch U w W1 := fun U => by rw [← hW1]; exact (Touch.alloc U w _).trans (Touch.alloc U _ _)
  have hs1 : Same T w W1 := Same.of_touch (ht1 (fun _ => False)) fun k hk => ⟨by rw [hB]; exact hT k hk, fun h => h⟩
  have notB : ∀ {j}, T j → j ≠ B ∧ j ≠ B + 1 := fun {j} hj => by have := hT j hj; omega
  refine ⟨B + 1, [{ target := .collected B, args := #[] }], W1, { target := .fn (.func gf) lb, args := #[.func (.yield (B + 1)) #[] #[]] }, W1, gf,
    #[.func (.yield (B + 1)) #[] #[]] ++ lb, W1, ?_, ?_, ?_, ?_, (fun h => by simp [Fence.wide] at h), ?_⟩
  · rw [← hW1, hrec]
    have := run_enterLoop_outer (P := P) (w := w) fn a.tmps #[p, q] assign body
    rw [hB] at this
    exact this
  · simp only [resolve, hg]
    simp [go_sem]
  · intro f' hf'; trivial
  · simp [invoke, go_sem, eg]
  · refine (hit (n - 1) (B + 1)
      (fun k W => I k W ∧ W.heap[B + 1]? = some (.loop (rec .ready none)) ∧ W.heap[B]? = some (.deferred (some [])))
      (fun W => ∃ c, Ix c W ∧ W.heap[B + 1]? = some (.loop (rec .done (some c))) ∧ W.heap[B]? = some (.deferred (some [])))
      W1 hs1 ?_ ?_ ?_ ⟨hI _ _ _ h0 (ht1 _), hL1, hK1⟩).mono ?_
    · rintro k W W' ⟨hi, hl, hk⟩ ht
      have hlt : B + 1 < W.heap.size := (Array.getElem?_eq_some_iff.1 hl).1
      exact ⟨hI _ _ _ hi (ht.mono fun j _ hj => by rw [hsz1] at hj; omega), (ht.block _ hlt fun h => by rw [hsz1] at h; omega).trans hl, (ht.block _ (by omega) fun h => by rw [hsz1] at h; omega).trans hk⟩
    · rintro W W' ⟨c, hi, hl, hk⟩ ht
      have hlt : B + 1 < W.heap.size := (Array.getElem?_eq_some_iff.1 hl).1
      exact ⟨c, hIx _ _ _ hi (ht.mono fun j _ hj => by rw [hsz1] at hj; omega), (ht.block _ hlt fun h => by rw [hsz1] at h; omega).trans hl, (ht.block _ (by omega) fun h => by rw [hsz1] at h; omega).trans hk⟩
    · rintro k x y b W hkN ⟨hbb, hx⟩ hbW ⟨hi, hl, hk⟩
      have hlt : B + 1 < W.heap.size := (Array.getElem?_eq_some_iff.1 hl).1
      have hy := run_yield (P := P) (args := #[x, y]) hl (by rw [hrec]; rfl)
      rw [hrec] at hy
      refine ⟨fn, _, assign, body, hy, roundIn_of_wpIn hfn ?_⟩
      have htm : (Array.zip #[p, q] #[x, y]).foldl (fun tmps (t, a) => tmps.setIfInBounds t a) a.tmps = (a.tmps.setIfInBounds p x).setIfInBounds q y := by simp [Array.zip]
      simp only [htm]
      have hm := hmk x y W
      have hlm : (mk x y W).heap[B + 1]? = some (.loop (rec .ready none)) := (hm.block _ hlt).trans hl
      have hkm : (mk x y W).heap[B]? = some (.deferred (some [])) := (hm.block _ (by omega)).trans hk
      have hltm := Nat.lt_of_lt_of_le hlt hm.size
      refine hassign _ k x y W _ hx ⟨_, run_beginRound hlm (by rw [hrec]), ?_⟩
      obtain ⟨Wb, hWb⟩ : ∃ Wb, (mk x y W).putObj (B + 1) (.loop { rec .ready none with state := .busy }) = Wb := ⟨_, rfl⟩
      have hl2 : Wb.heap[B + 1]? = some (.loop { rec .ready none with state := .busy }) := by rw [← hWb]; exact World.putObj_heap_same hltm
      have hk2 : Wb.heap[B]? = some (.deferred (some [])) := by rw [← hWb]; exact (World.putObj_heap_other (by omega)).trans hkm
      have ht2 : Touch (fun j => B + 1 ≤ j) W Wb := by rw [← hWb]; exact (Touch.of_below hm).trans (Touch.putObj _ _ _ (Nat.le_refl _))
      have hnb : ∀ {j}, (T j ∨ (W1.heap.size ≤ j ∧ j < W.heap.size)) → j ≠ B ∧ j ≠ B + 1 := fun {j} hj => by
        rcases hj with hj | ⟨hj, _⟩
        · exact notB hj
        · rw [hsz1] at hj; omega
      have hTW : ∀ {j}, T j → j < W.heap.size := fun {j} hj => by have := hT j hj; omega
      have hs2 : Same (fun j => T j ∨ (W1.heap.size ≤ j ∧ j < W.heap.size)) W Wb := ⟨ht2.size, fun j hj => by rw [← hWb]; exact (World.putObj_heap_other (hnb hj).2).trans (hm.block j (hj.elim hTW fun h => h.2))⟩
      rw [hWb]
      refine wpIn_mono (hbody _ k x y W Wb hkN hx (hI _ _ _ hi ht2) hlt (fun j hj => by rw [← hWb]; exact World.putObj_heap_other (by omega)) (by rw [← hWb]; simp) hm) ?_
      have fin : ∀ (jump : Option Code) (W3 : World), W3.heap[B + 1]? = Wb.heap[B + 1]? → W3.heap[B]? = Wb.heap[B]? →
          (Instr.endRound (B + 1) jump).run P W3 = .ok (.bool jump.isNone) (W3.putObj (B + 1) (.loop (rec (if jump.isNone then .ready else .done) jump))) ∧
          (W3.putObj (B + 1) (.loop (rec (if jump.isNone then .ready else .done) jump))).heap[B + 1]? = some (.loop (rec (if jump.isNone then .ready else .done) jump)) ∧
          (W3.putObj (B + 1) (.loop (rec (if jump.isNone then .ready else .done) jump))).heap[B]? = some (.deferred (some [])) := fun jump W3 e1 e0 => by
        have hl3 := e1.trans hl2
        have := run_endRound (P := P) jump hl3
        rw [hrec] at this ⊢
        exact ⟨this, World.putObj_heap_same (Array.getElem?_eq_some_iff.1 hl3).1, (World.putObj_heap_other (by omega)).trans (e0.trans hk2)⟩
      rintro e a3 W3 hp
      cases e with
      | normal =>
        obtain ⟨hs3, hi3⟩ := hp
        obtain ⟨hr, hl4, hk4⟩ := fin none W3 (hs3.block _ (.inr (.inr (.inl rfl)))) (hs3.block _ (.inr (.inl rfl)))
        refine ⟨_, _, hr, .inl ⟨rfl, ⟨hI _ _ _ hi3 (Touch.putObj _ _ _ (Nat.le_refl _)), hl4, hk4⟩, ?_⟩⟩
        exact (hs2.trans ((hs3.mono fun j hj => hj.elim (fun h => .inl h) fun h => .inr (.inr (.inr ⟨by rw [hsz1] at h; omega, h.2⟩))).trans ⟨by simp, fun j hj => World.putObj_heap_other (hnb hj).2⟩)).mono fun j hj => hj.imp id fun h => ⟨h.1, Nat.lt_of_lt_of_le h.2 hbb⟩
      | ret =>
        obtain ⟨hs3, hi3⟩ := hp
        obtain ⟨hr, hl4, hk4⟩ := fin (some .ret) W3 (hs3.block _ (.inr rfl)) (hs3.block _ (.inl rfl))
        exact ⟨_, _, hr, .inr ⟨rfl, .ret, hIx _ _ _ hi3 (Touch.putObj _ _ _ (Nat.le_refl _)), hl4, hk4⟩⟩
      | exit id =>
        obtain ⟨hs3, hi3⟩ := hp
        obtain ⟨hr, hl4, hk4⟩ := fin (some (.exit id)) W3 (hs3.block _ (.inr rfl)) (hs3.block _ (.inl rfl))
        exact ⟨_, _, hr, .inr ⟨rfl, .exit id, hIx _ _ _ hi3 (Touch.putObj _ _ _ (Nat.le_refl _)), hl4, hk4⟩⟩
      | goto t =>
        obtain ⟨hs3, hi3⟩ := hp
        obtain ⟨hr, hl4, hk4⟩ := fin (some (.goto t)) W3 (hs3.block _ (.inr rfl)) (hs3.block _ (.inl rfl))
        exact ⟨_, _, hr, .inr ⟨rfl, .goto t, hIx _ _ _ hi3 (Touch.putObj _ _ _ (Nat.le_refl _)), hl4, hk4⟩⟩
      | panic ch => exact hp.elim
      | outgrown => exact hp.elim
    · rintro e W2 ⟨⟨v, rfl⟩, (⟨hi, hl, hk⟩ | ⟨c, hi, hl, hk⟩)⟩
      · exact ⟨none, _, by have := run_endLoop (P := P) hl (by rw [hrec]; simp); rw [hrec] at this; exact this, hdone _ (hI _ _ _ hi (Touch.putObj _ _ _ (Nat.le_refl _))) ((World.putObj_heap_other (by omega)).trans hk)⟩
      · exact ⟨some c, _, by have := run_endLoop (P := P) hl (by rw [hrec]; simp); rw [hrec] at this; exact this, hstop c _ (hIx _ _ _ hi (Touch.putObj _ _ _ (Nat.le_refl _))) ((World.putObj_heap_other (by omega)).trans hk)⟩

/-- the same, with what the assignment does to the frame -/
theorem range_law2f {P : Program} {n : Nat} {g : Operand} {p q : Tmp} {assign body : Code} {Q : Exit → Act → World → Prop} {a : Act} {w : World} {gf : Nat} {lb : Array Value}
    (hg : a.eval g = .func (.func gf) #[] lb) (eg : ∀ args w, (callFunc gf args).run P w = .ok (.enter gf args) w)
    {T : Nat → Prop} {N : Nat} {R : Nat → Value → Value → Prop} (hit : IterV P gf lb T N R w) (hT : ∀ k, T k → k < w.heap.size)
    (I : Nat → World → Prop) (Ix : Code → World → Prop)
    (hI : ∀ k W W', I k W → Touch (fun j => w.heap.size + 1 ≤ j) W W' → I k W') (hIx : ∀ c W W', Ix c W → Touch (fun j => w.heap.size + 1 ≤ j) W W' → Ix c W')
    (h0 : I 0 w) (mk : Value → Value → World → World) (hmk : ∀ x y W, Below W.heap.size W (mk x y W)) (f : Value → Value → World → Array Value → Array Value)
    (hassign : ∀ (l k : Nat) (x y : Value) (W : World) (K : Act → World → Prop), R k x y → K { tmps := f x y W ((a.tmps.setIfInBounds p x).setIfInBounds q y), defers := [] } (mk x y W) →
      assign.wpIn (Fence.wide.inRound l) (n - 1 - 1) P (Exit.then K (fun _ _ _ => False)) { tmps := (a.tmps.setIfInBounds p x).setIfInBounds q y, defers := [] } W)
    (hbody : ∀ (l k : Nat) (x y : Value) (V W : World), k < N → R k x y → I k W → w.heap.size + 1 < V.heap.size → (∀ j, V.heap.size ≤ j → W.heap[j]? = (mk x y V).heap[j]?) → W.heap.size = (mk x y V).heap.size → Below V.heap.size V (mk x y V) → body.wpIn (Fence.wide.inRound l) (n - 1 - 1) P (roundEnd T w.heap.size V.heap.size I Ix k W) { tmps := f x y V ((a.tmps.setIfInBounds p x).setIfInBounds q y), defers := [] } W)
    (hdone : ∀ (W : World), I N W → W.heap[w.heap.size]? = some (.deferred (some [])) → Q .normal { a with defers := { target := .collected w.heap.size, args := #[] } :: a.defers } W)
    (hstop : ∀ (c : Code) (W : World), Ix c W → W.heap[w.heap.size]? = some (.deferred (some [])) → c.wpIn Fence.wide n P Q { a with defers := { target := .collected w.heap.size, args := #[] } :: a.defers } W) :
    (Code.rangeFunc g #[p, q] assign body).wpIn Fence.wide n P Q a w :=
  range_law2m hg eg hit hT I Ix hI hIx h0 mk hmk (fun x y W => { tmps := f x y W ((a.tmps.setIfInBounds p x).setIfInBounds q y), defers := [] }) hassign hbody hdone hstop
/-- the same, where the loop's two variables are assigned at once -/
theorem range_law2s {P : Program} {n : Nat} {g : Operand} {p q : Tmp} {assign body : Code} {Q : Exit → Act → World → Prop} {a : Act} {w : World} {gf : Nat} {lb : Array Value} (p' q' : Tmp)
    (hg : a.eval g = .func (.func gf) #[] lb) (eg : ∀ args w, (callFunc gf args).run P w = .ok (.enter gf args) w)
    {T : Nat → Prop} {N : Nat} {R : Nat → Value → Value → Nat → World → Prop} (hit : IterG2 P gf lb T N R w) (hR : ∀ k x y b W W', R k x y b W → W.heap.size ≤ W'.heap.size → (∀ j, w.heap.size + 2 ≤ j → W'.heap[j]? = W.heap[j]?) → R k x y b W') (hT : ∀ k, T k → k < w.heap.size)
    (I : Nat → World → Prop) (Ix : Code → World → Prop)
    (hI : ∀ k W W', I k W → Touch (fun j => w.heap.size + 1 ≤ j) W W' → I k W') (hIx : ∀ c W W', Ix c W → Touch (fun j => w.heap.size + 1 ≤ j) W W' → Ix c W')
    (h0 : I 0 w)
    (hassign : ∀ (l : Nat) (x y : Value) (W : World) (K : Act → World → Prop), K { tmps := (((a.tmps.setIfInBounds p x).setIfInBounds q y).setIfInBounds p' x).setIfInBounds q' y, defers := [] } W →
      assign.wpIn (Fence.wide.inRound l) (n - 1 - 1) P (Exit.then K (fun _ _ _ => False)) { tmps := (a.tmps.setIfInBounds p x).setIfInBounds q y, defers := [] } W)
    (hbody : ∀ (l k : Nat) (x y : Value) (b : Nat) (W : World), k < N → R k x y b W → w.heap.size + 2 ≤ b → I k W → w.heap.size + 1 < W.heap.size → body.wpIn (Fence.wide.inRound l) (n - 1 - 1) P (roundEnd T w.heap.size b I Ix k W) { tmps := (((a.tmps.setIfInBounds p x).setIfInBounds q y).setIfInBounds p' x).setIfInBounds q' y, defers := [] } W)
    (hdone : ∀ (W : World), I N W → W.heap[w.heap.size]? = some (.deferred (some [])) → Q .normal { a with defers := { target := .collected w.heap.size, args := #[] } :: a.defers } W)
    (hstop : ∀ (c : Code) (W : World), Ix c W → W.heap[w.heap.size]? = some (.deferred (some [])) → c.wpIn Fence.wide n P Q { a with defers := { target := .collected w.heap.size, args := #[] } :: a.defers } W) :
    (Code.rangeFunc g #[p, q] assign body).wpIn Fence.wide n P Q a w :=
  range_law2 hg eg hit hR hT I Ix hI hIx h0 (fun x y => { tmps := (((a.tmps.setIfInBounds p x).setIfInBounds q y).setIfInBounds p' x).setIfInBounds q' y, defers := [] }) hassign hbody hdone hstop
theorem IterG2.weak {P : Program} {gf : Nat} {lb : Array Value} {T : Nat → Prop} {N : Nat} {R R' : Nat → Value → Value → Nat → World → Prop} {w : World} (h : IterG2 P gf lb T N R w) (hR : ∀ k x y b W, R k x y b W → R' k x y b W) : IterG2 P gf lb T N R' w :=
  fun n l J Jx W hs hJ hJx hY h0 => h n l J Jx W hs hJ hJx (fun k x y b W1 hk hr hb hj => hY k x y b W1 hk (hR _ _ _ _ _ hr) hb hj) h0
end Go.Proofs.Ytojhppcnpjajaaa
