/-
  A range over a function whose iterator writes nothing: what it leans on stays as it is. No program is walked here, and nothing is assumed.
-/
import Derived.Test.YthpkfgjjaieikaaGreatDoorRange
import Derived.Test.YthpkfgjjaieikaaGreatDoorFsPaths
namespace Go.Proofs.YthpkfgjjaieikaaGreatDoor
open Go.RowKit Go.Lib Go.Maps Go.Sort
attribute [local go_sem] Oper.semAt_some

/-- an iterator that writes nothing -/
def Iter0 (P : Program) (gf : Nat) (lb : Array Value) (T : Nat → Prop) (xs : List Value) (w : World) : Prop :=
  ∀ (n l : Nat) (J : Nat → World → Prop) (Jx : World → Prop) (W : World), Same T w W →
    (∀ k x W1, xs[k]? = some x → J k W1 → YieldAt Fence.wide (n - 1) P l #[x] W1 fun e W' => (e = .returned (.bool true) ∧ J (k + 1) W' ∧ Same T W1 W') ∨ (e = .returned (.bool false) ∧ Jx W')) →
    J 0 W →
    CallsIn Fence.wide n P gf (#[.func (.yield l) #[] #[]] ++ lb) W fun e W' => (∃ v, e = .returned v) ∧ (J xs.length W' ∨ Jx W')

/-- what lies behind the loop's entry -/
theorem range_law0 {P : Program} {n : Nat} {g : Operand} {p : Tmp} {assign body : Code} {Q : Exit → Act → World → Prop} {a : Act} {w : World} {gf : Nat} {lb : Array Value}
    (hg : a.eval g = .func (.func gf) #[] lb) (eg : ∀ args w, (callFunc gf args).run P w = .ok (.enter gf args) w)
    {T : Nat → Prop} {xs : List Value} (hit : Iter0 P gf lb T xs w) (hT : ∀ k, T k → k < w.heap.size)
    (I : Nat → World → Prop) (Ix : Code → World → Prop)
    (hI : ∀ k W W', I k W → Touch (fun j => j = w.heap.size + 1) W W' → I k W') (hIx : ∀ c W W', Ix c W → Touch (fun j => j = w.heap.size + 1) W W' → Ix c W')
    (h0 : I 0 w) (a₁ : Value → Act)
    (hassign : ∀ (l : Nat) (x : Value) (W : World) (K : Act → World → Prop), K (a₁ x) W →
      assign.wpIn (Fence.wide.inRound l) (n - 1 - 1) P (Exit.then K (fun _ _ _ => False)) { tmps := a.tmps.setIfInBounds p x, defers := [] } W)
    (hbody : ∀ (l k : Nat) (x : Value) (W : World), xs[k]? = some x → I k W → w.heap.size + 1 < W.heap.size → body.wpIn (Fence.wide.inRound l) (n - 1 - 1) P (roundEnd T w.heap.size I Ix k W) (a₁ x) W)
    (hdone : ∀ (W : World), I xs.length W → W.heap[w.heap.size]? = some (.deferred (some [])) → Q .normal { a with defers := { target := .collected w.heap.size, args := #[] } :: a.defers } W)
    (hstop : ∀ (c : Code) (W : World), Ix c W → W.heap[w.heap.size]? = some (.deferred (some [])) → c.wpIn Fence.wide n P Q { a with defers := { target := .collected w.heap.size, args := #[] } :: a.defers } W) :
    (Code.rangeFunc g #[p] assign body).wpIn Fence.wide n P Q a w := by
  refine wpIn_rangeFunc ?_
  intro fn hfn
  generalize hB : w.heap.size = B at *
  obtain ⟨rec, hrec⟩ : ∃ rec : LoopState → Option Code → Loop, rec = fun st pe => { state := st, pending := pe, fn, tmps := a.tmps, params := #[p], assign, body, defers := B } := ⟨_, rfl⟩
  obtain ⟨W1, hW1⟩ : ∃ W1, (w.alloc (.deferred (some []))).alloc (.loop (rec .ready none)) = W1 := ⟨_, rfl⟩
  have hsz : (w.alloc (.deferred (some []))).heap.size = B + 1 := by simp [hB]
  have hL1 : W1.heap[B + 1]? = some (.loop (rec .ready none)) := by
    rw [← hW1]; have := World.alloc_heap_new (w.alloc (.deferred (some []))) (.loop (rec .ready none)); rwa [hsz] at this
  have hK1 : W1.heap[B]? = some (.deferred (some [])) := by
    rw [← hW1, Below.heap_alloc _ _ _ (by rw [hsz]; omega)]; have := World.alloc_heap_new w (.deferred (some [])); rwa [hB] at this
  have ht1 : ∀ U : Nat → Prop, Touch U w W1 := fun U => by rw [← hW1]; exact (Touch.alloc U w _).trans (Touch.alloc U _ _)
  have hs1 : Same T w W1 := Same.of_touch (ht1 (fun _ => False)) fun k hk => ⟨by rw [hB]; exact hT k hk, fun h => h⟩
  have notB : ∀ {j}, T j → j ≠ B ∧ j ≠ B + 1 := fun {j} hj => by have := hT j hj; omega
  refine ⟨B + 1, [{ target := .collected B, args := #[] }], W1, { target := .fn (.func gf) lb, args := #[.func (.yield (B + 1)) #[] #[]] }, W1, gf,
    #[.func (.yield (B + 1)) #[] #[]] ++ lb, W1, ?_, ?_, ?_, ?_, (fun h => by simp [Fence.wide] at h), ?_⟩
  · rw [← hW1, hrec]
    have := run_enterLoop_outer (P := P) (w := w) fn a.tmps #[p] assign body
    rw [hB] at this
    exact this
  · simp only [resolve, hg]
    simp [go_sem]
  · intro f' hf'; trivial
  · simp [invoke, go_sem, eg]
  · refine (hit (n - 1) (B + 1)
      (fun k W => I k W ∧ W.heap[B + 1]? = some (.loop (rec .ready none)) ∧ W.heap[B]? = some (.deferred (some [])))
      (fun W => ∃ c, Ix c W ∧ W.heap[B + 1]? = some (.loop (rec .done (some c))) ∧ W.heap[B]? = some (.deferred (some [])))
      W1 hs1 ?_ ⟨hI _ _ _ h0 (ht1 _), hL1, hK1⟩).mono ?_
    · rintro k x W hx ⟨hi, hl, hk⟩
      have hlt : B + 1 < W.heap.size := (Array.getElem?_eq_some_iff.1 hl).1
      have hy := run_yield (P := P) (args := #[x]) hl (by rw [hrec]; rfl)
      rw [hrec] at hy
      refine ⟨fn, _, assign, body, hy, roundIn_of_wpIn hfn ?_⟩
      have htm : (Array.zip #[p] #[x]).foldl (fun tmps (t, a) => tmps.setIfInBounds t a) a.tmps = a.tmps.setIfInBounds p x := by simp [Array.zip]
      simp only [htm]
      refine hassign _ x W _ ⟨_, run_beginRound hl (by rw [hrec]), ?_⟩
      obtain ⟨Wb, hWb⟩ : ∃ Wb, W.putObj (B + 1) (.loop { rec .ready none with state := .busy }) = Wb := ⟨_, rfl⟩
      have hl2 : Wb.heap[B + 1]? = some (.loop { rec .ready none with state := .busy }) := by rw [← hWb]; exact World.putObj_heap_same hlt
      have hk2 : Wb.heap[B]? = some (.deferred (some [])) := by rw [← hWb]; exact (World.putObj_heap_other (by omega)).trans hk
      have ht2 : Touch (fun j => j = B + 1) W Wb := by rw [← hWb]; exact Touch.putObj _ _ _ rfl
      have hs2 : Same T W Wb := ⟨ht2.size, fun j hj => by rw [← hWb]; exact World.putObj_heap_other (notB hj).2⟩
      rw [hWb]
      refine wpIn_mono (hbody _ k x Wb hx (hI _ _ _ hi ht2) (by have := ht2.size; omega)) ?_
      have fin : ∀ (jump : Option Code) (W3 : World), W3.heap[B + 1]? = Wb.heap[B + 1]? → W3.heap[B]? = Wb.heap[B]? →
          (Instr.endRound (B + 1) jump).run P W3 = .ok (.bool jump.isNone) (W3.putObj (B + 1) (.loop (rec (if jump.isNone then .ready else .done) jump))) ∧
          (W3.putObj (B + 1) (.loop (rec (if jump.isNone then .ready else .done) jump))).heap[B + 1]? = some (.loop (rec (if jump.isNone then .ready else .done) jump)) ∧
          (W3.putObj (B + 1) (.loop (rec (if jump.isNone then .ready else .done) jump))).heap[B]? = some (.deferred (some [])) := fun jump W3 e1 e0 => by
        have hl3 := e1.trans hl2
        have := run_endRound (P := P) jump hl3
        rw [hrec] at this ⊢
        exact ⟨this, World.putObj_heap_same (Array.getElem?_eq_some_iff.1 hl3).1, (World.putObj_heap_other (by omega)).trans (e0.trans hk2)⟩
      rintro e a3 W3 hp
      cases e with
      | normal =>
        obtain ⟨hs3, hi3⟩ := hp
        obtain ⟨hr, hl4, hk4⟩ := fin none W3 (hs3.block _ (.inr (.inr rfl))) (hs3.block _ (.inr (.inl rfl)))
        refine ⟨_, _, hr, .inl ⟨rfl, ⟨hI _ _ _ hi3 (Touch.putObj _ _ _ rfl), hl4, hk4⟩, ?_⟩⟩
        exact hs2.trans ((hs3.mono fun j hj => .inl hj).trans ⟨by simp, fun j hj => World.putObj_heap_other (notB hj).2⟩)
      | ret =>
        obtain ⟨hs3, hi3⟩ := hp
        obtain ⟨hr, hl4, hk4⟩ := fin (some .ret) W3 (hs3.block _ (.inr rfl)) (hs3.block _ (.inl rfl))
        exact ⟨_, _, hr, .inr ⟨rfl, .ret, hIx _ _ _ hi3 (Touch.putObj _ _ _ rfl), hl4, hk4⟩⟩
      | exit id =>
        obtain ⟨hs3, hi3⟩ := hp
        obtain ⟨hr, hl4, hk4⟩ := fin (some (.exit id)) W3 (hs3.block _ (.inr rfl)) (hs3.block _ (.inl rfl))
        exact ⟨_, _, hr, .inr ⟨rfl, .exit id, hIx _ _ _ hi3 (Touch.putObj _ _ _ rfl), hl4, hk4⟩⟩
      | goto t =>
        obtain ⟨hs3, hi3⟩ := hp
        obtain ⟨hr, hl4, hk4⟩ := fin (some (.goto t)) W3 (hs3.block _ (.inr rfl)) (hs3.block _ (.inl rfl))
        exact ⟨_, _, hr, .inr ⟨rfl, .goto t, hIx _ _ _ hi3 (Touch.putObj _ _ _ rfl), hl4, hk4⟩⟩
      | panic ch => exact hp.elim
      | outgrown => exact hp.elim
    · rintro e W2 ⟨⟨v, rfl⟩, (⟨hi, hl, hk⟩ | ⟨c, hi, hl, hk⟩)⟩
      · exact ⟨none, _, by have := run_endLoop (P := P) hl (by rw [hrec]; simp); rw [hrec] at this; exact this, hdone _ (hI _ _ _ hi (Touch.putObj _ _ _ rfl)) ((World.putObj_heap_other (by omega)).trans hk)⟩
      · exact ⟨some c, _, by have := run_endLoop (P := P) hl (by rw [hrec]; simp); rw [hrec] at this; exact this, hstop c _ (hIx _ _ _ hi (Touch.putObj _ _ _ rfl)) ((World.putObj_heap_other (by omega)).trans hk)⟩

set_option maxRecDepth 100000 in
set_option maxHeartbeats 1000000 in
theorem paths_iter0 (w : World) (k base : Nat) (v : Value) (xs : List (List UInt8)) (hl : xs.length ≤ 1000000) (hb : Box w k v 80) (hrow : w.ownsRow base 9 1 v xs.length (xs.map str)) :
    Iter0 Tryz.prog 114 #[.pointer (some ⟨k, 0, none⟩)] (PathsT k v) (xs.map str) w := by
  intro n l J Jx W hs hY h0
  have hbW : Box W k v 80 := hb.same (hs.block _ (.inl rfl))
  have cW := hbW.cell
  have hrowW : ∀ W', Same (PathsT k v) w W' → ∀ g cap, v = .slice (some ⟨g, 0, none⟩) xs.length cap → ∀ j (hj : j < xs.length), W'.cell? ⟨g, j, none⟩ = some (str xs[j]) := fun W' hs' g cap e j hj => by
    have := hrow.cells (g := g) (by rw [e]; rfl) j (str xs[j]) (by simp [hj])
    have h2 : W'.cell? ((⟨g, 0, none⟩ : Addr).add j) = w.cell? ((⟨g, 0, none⟩ : Addr).add j) := World.cell?_of_block (by
      have hbk : ((⟨g, 0, none⟩ : Addr).add j).block = g := by unfold Addr.add; split <;> rfl
      rw [hbk]; exact hs'.block g (.inr (by rw [e]; rfl)))
    have h3 := h2.trans this
    rcases Nat.eq_zero_or_pos j with rfl | hp
    · simpa [Addr.add] using h3
    · have e0 : (⟨g, 0, none⟩ : Addr).add j = ⟨g, j, none⟩ := by simp [Addr.add]; omega
      rwa [e0] at h3
  have HRW := Lib.hid hrowW
  have HSAME := Lib.hid hs
  have HY := Lib.hid hY
  have H0 := Lib.hid h0
  have hshape : (v = .slice none 0 0 ∧ xs = []) ∨ ∃ g cap, v = .slice (some ⟨g, 0, none⟩) xs.length cap := by
    rcases hrow.2 with ⟨e, h0⟩ | ⟨g, cap, cur, e, _⟩
    · exact .inl ⟨e, List.eq_nil_of_length_eq_zero h0⟩
    · exact .inr ⟨g, cap, e⟩
  have hdep : Fence.wide.depth.isSome = false := rfl
  clear hb hrow hs hY h0 hbW hrowW
  rcases hshape with ⟨rfl, rfl⟩ | ⟨g, cap, rfl⟩
  · refine callsIn_of_wp Tryz.func114 rfl trivial ?_ rfl
    simp only [Tryz.ntmps114, List.size_toArray, List.length_cons, List.length_nil, Nat.reduceAdd, Nat.reduceSub, Array.replicate_succ, Array.replicate_zero, List.push_toArray, List.append_toArray, List.nil_append, List.cons_append]
    gi_wp2_with fail
    gi_loopw [7] (fun i wr => i = .int .i64 0 ∧ J 0 wr) (fun _ _ => 0)
    case atStart => exact ⟨rfl, H0.out⟩
    case round =>
      obtain ⟨rfl, hj⟩ := hrel
      gi_wp2_with fail
      go_end0
      exact ⟨⟨_, rfl⟩, .inl hj⟩
  · refine callsIn_of_wp Tryz.func114 rfl trivial ?_ rfl
    simp only [Tryz.ntmps114, List.size_toArray, List.length_cons, List.length_nil, Nat.reduceAdd, Nat.reduceSub, Array.replicate_succ, Array.replicate_zero, List.push_toArray, List.append_toArray, List.nil_append, List.cons_append]
    gi_wp2_with fail
    gi_loopw [7] (fun i wr => PathsRel k (.slice (some ⟨g, 0, none⟩) xs.length cap) xs.length w J i wr) (fun i _ => xs.length - (intOf i).toNat)
    case atStart => exact ⟨0, Nat.zero_le _, rfl, HSAME.out, H0.out⟩
    case round =>
      obtain ⟨m, hm, rfl, hsm, hj⟩ := hrel
      have HSM := Lib.hid hsm
      have HJM := Lib.hid hj
      clear hsm hj
      by_cases hlt : m < xs.length
      · have hcell := HRW.out wr HSM.out g cap rfl m hlt
        obtain ⟨fn, tmps, assign, body, hy, hR⟩ := HY.out m (str xs[m]) wr (by simp [hlt]) HJM.out
        have HR := Lib.hid hR
        clear hR
        generalize xs[m] = q at hcell hy
        gi_wp2_with fail
        refine (HR.out).mono ?_
        rintro e W3 (⟨rfl, hJ3, hk3⟩ | ⟨rfl, hJx3⟩)
        · have HJ3 := Lib.hid hJ3
          have HK3 := Lib.hid hk3
          clear hJ3 hk3
          gi_wp2_with fail
          go_roundw
          case rel => exact ⟨m + 1, by omega, by go_num, HSM.out.trans HK3.out, HJ3.out⟩
          case measure => simp [intOf]; omega
        · gi_wp2_with fail
          refine bodyPost_ret (results_none rfl _ _ _) rfl ?_
          exact ⟨⟨_, rfl⟩, .inr hJx3⟩
      · obtain rfl : m = xs.length := by omega
        gi_wp2_with fail
        go_end0
        exact ⟨⟨_, rfl⟩, .inl (by rw [List.length_map]; exact HJM.out)⟩

end Go.Proofs.YthpkfgjjaieikaaGreatDoor
