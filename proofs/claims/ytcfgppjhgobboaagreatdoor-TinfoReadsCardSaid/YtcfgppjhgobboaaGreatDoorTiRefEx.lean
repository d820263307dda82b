/-
  The condition in Check of the document, by what its operations give.
-/
import Derived.Test.YtcfgppjhgobboaaGreatDoorTmLong
import Derived.Test.YtcfgppjhgobboaaGreatDoorTmBase
namespace Go.Proofs.YtcfgppjhgobboaaGreatDoor
open Go.RowKit Go.Shelf Go.Lib
attribute [local go_sem] Oper.semAt_some

theorem ActAt.yields {ops : Array Oper} {a0 a : Act} {L : Nat → Bool} {f : Nat → Value} (h : ActAt ops a0 a L f) {g d : Nat} (hd : ops[g]?.bind (·.dst) = some d) (ho : ownerOf ops d = some g) (hL : L g = true) : yielded ops a.tmps g = match f g with | .bool b => some b | _ => none := by
  have h1 := h.slots d
  rw [slotAt, ho] at h1
  simp only [hL, if_true] at h1
  unfold yielded
  rw [hd]
  simp only [Option.bind_some, h1]
  cases f g <;> rfl
theorem wanted_yes {o : Oper} {y : Nat → Option Bool} {g : Nat} {b : Bool} (hg : o.guard = some (g, b)) (hy : y g = some b) : Region.wanted o y = true := by simp [Region.wanted, hg, hy]
theorem wanted_no {o : Oper} {y : Nat → Option Bool} {g : Nat} {b : Bool} (hg : o.guard = some (g, b)) (hy : ¬ y g = some b) : Region.wanted o y = false := by simp [Region.wanted, hg, hy]
theorem wanted_all {o : Oper} {y : Nat → Option Bool} (hg : o.guard = none) : Region.wanted o y = true := by simp [Region.wanted, hg]
theorem opg_value {P : Program} {ops : Array Oper} {Q : Exit → Act → World → Prop} {i : Nat} {o : Oper} {K : Act → World → Prop} {a : Act} {w w' : World} {v : Value} (ho : ops[i]? = some o) (hw : Region.wanted o (yielded ops a.tmps) = true) (hr : (execOp a.eval o).run P w = .ok (.value v) w') (hK : K (a.put o.dst v) w') : wpOp P ops Q i K a w := by
  unfold wpOp
  rw [ho]
  simp only [hw, if_true]
  left
  unfold Oper.wp
  rw [hr]
  exact hK
theorem opg_pass {P : Program} {ops : Array Oper} {Q : Exit → Act → World → Prop} {i : Nat} {o : Oper} {K : Act → World → Prop} {a : Act} {w : World} (ho : ops[i]? = some o) (hw : Region.wanted o (yielded ops a.tmps) = false) (hK : K (a.put o.dst undef) w) : wpOp P ops Q i K a w := by
  unfold wpOp
  rw [ho]
  simp only [hw]
  exact hK
theorem opg_call {P : Program} {ops : Array Oper} {Q : Exit → Act → World → Prop} {i : Nat} {o : Oper} {K : Act → World → Prop} {a : Act} {w w' : World} {g : FuncId} {args : Array Value} (ho : ops[i]? = some o) (hw : Region.wanted o (yielded ops a.tmps) = true) (hr : (execOp a.eval o).run P w = .ok (.enter g args) w') (hK : Calls P g args w' fun e w'' => ∃ v, e = .returned v ∧ K (a.put o.dst v) w'') : wpOp P ops Q i K a w := by
  unfold wpOp
  rw [ho]
  simp only [hw, if_true]
  left
  unfold Oper.wp
  rw [hr]
  refine Calls.mono hK ?_
  rintro e w'' ⟨v, rfl, h⟩
  exact h
/-- what an operation is, with its guard -/
def opGs (ops : Array Oper) (i : Nat) : Option (Op × Option Nat × Option (Nat × Bool) × List Nat) := (ops[i]?).map fun o => (o.op, o.dst, o.guard, ((o.after.filter (Region.binds .any)).map (·.on)).toList)
theorem op_gs {ops : Array Oper} {i : Nat} {o : Oper} {op : Op} {d : Option Nat} {g : Option (Nat × Bool)} {l : List Nat} (ho : ops[i]? = some o) (h : opGs ops i = some (op, d, g, l)) : o.op = op ∧ o.guard = g ∧ ∀ j ∈ l, ∃ e ∈ o.after, Region.binds .any e = true ∧ e.on = j := by
  unfold opGs at h
  rw [ho] at h
  simp only [Option.map_some, Option.some.injEq, Prod.mk.injEq] at h
  obtain ⟨h1, h2, h3, h4⟩ := h
  refine ⟨h1, h3, fun j hj => ?_⟩
  rw [← h4] at hj
  simp at hj
  obtain ⟨e, ⟨he, hb⟩, hon⟩ := hj
  exact ⟨e, he, hb, hon⟩
/-- all values so far are these; the world has but grown -/
structure ValsJ (X : World) (vals : Nat → Value) (L : Nat → Bool) (f : Nat → Value) (W : World) : Prop where
  below : Below X.heap.size X W
  vals : ∀ j, L j = true → f j = vals j
theorem ValsJ.put {X W : World} {vals : Nat → Value} {L : Nat → Bool} {f : Nat → Value} (h : ValsJ X vals L f W) {i : Nat} {v : Value} (hv : vals i = v) : ValsJ X vals (upd L i true) (upd f i v) W := by
  refine ⟨h.below, fun j hj => ?_⟩
  by_cases hji : j = i
  · subst hji
    rw [upd_same, hv]
  · rw [upd_ne _ _ hji] at hj ⊢
    exact h.vals j hj
theorem ValsJ.next {X W W' : World} {vals : Nat → Value} {L : Nat → Bool} {f : Nat → Value} (h : ValsJ X vals L f W) (hb : Below W.heap.size W W') : ValsJ X vals L f W' := ⟨h.below.trans (hb.mono h.below.size), h.vals⟩

def refVals (xb b kb off k j n cap : Nat) (x : ExtD) (wd : Bool) (pk : Int) (b1 b2 k0 b3 fit adp g1 g2 g3 : Bool) (i : Nat) : Value := ([(.pointer (some ⟨xb, 0, none⟩)), (.int .i64 x.kind), (.bool b1), (.bool b1), (bif !b1 then .pointer (some ⟨xb, 0, none⟩) else undef), (bif !b1 then .int .i64 x.kind else undef), (bif !b1 then .bool b2 else undef), (.bool g1), (.bool g1), (bif !g1 then .int .i64 (k : Int) else undef), (bif !g1 then .bool k0 else undef), (bif !g1 then .bool k0 else undef), (bif !g1 && k0 then .pointer (some ⟨xb, 0, none⟩) else undef), (bif !g1 && k0 then .int .i64 x.kind else undef), (bif !g1 && k0 then .pointer (some ⟨b, 5, none⟩) else undef), (bif !g1 && k0 then .slice (some ⟨kb, off, none⟩) n cap else undef), (bif !g1 && k0 then .int .i64 (k : Int) else undef), (bif !g1 && k0 then .int .i64 (j : Int) else undef), (bif !g1 && k0 then .pointer (some ⟨kb, off + j * 5, none⟩) else undef), (bif !g1 && k0 then .pointer (some ⟨kb, off + j * 5, none⟩) else undef), (bif !g1 && k0 then .int .i64 pk else undef), (bif !g1 && k0 then .bool b3 else undef), (bif !g1 then .bool (k0 && b3) else undef), (.bool g2), (.bool g2), (bif !g2 then .pointer (some ⟨xb, 2, none⟩) else undef), (bif !g2 then .agg #[.int .i64 x.cap.st, .int .i64 x.cap.num, str x.cap.text] else undef), (bif !g2 then .pointer (some ⟨xb, 0, none⟩) else undef), (bif !g2 then .int .i64 x.kind else undef), (bif !g2 then .pointer (some ⟨b, 1, none⟩) else undef), (bif !g2 then .bool wd else undef), (bif !g2 then .bool fit else undef), (bif !g2 then .bool (!fit) else undef), (.bool g3), (.bool g3), (bif !g3 then .pointer (some ⟨b, 5, none⟩) else undef), (bif !g3 then .slice (some ⟨kb, off, none⟩) n cap else undef), (bif !g3 then .int .i64 (k : Int) else undef), (bif !g3 then .slice (some ⟨kb, off, none⟩) k cap else undef), (bif !g3 then .pointer (some ⟨xb, 1, none⟩) else undef), (bif !g3 then str x.name else undef), (bif !g3 then .bool adp else undef), (bif !g3 then .bool (!adp) else undef), (.bool (g3 || !adp))] : List Value).getD i undef
theorem refc_ok : ownOk (regionOf Tryz.f44 9) 96 = true := by kernel_rfl
theorem refc_deps : depsOk (regionOf Tryz.f44 9) = true := by kernel_rfl
theorem refc_size : (regionOf Tryz.f44 9).size = 44 := by kernel_rfl
set_option maxRecDepth 100000 in
set_option maxHeartbeats 4000000 in
theorem refc_step (X : World) (xb b kb off k j n cap : Nat) (x : ExtD) (wd : Bool) (pk : Int) (b1 b2 k0 b3 fit adp g1 g2 g3 : Bool) (a0 : Act) (Q : Exit → Act → World → Prop)
    (z1 : a0.eval (.tmp 1) = .pointer (some ⟨b, 0, none⟩)) (z3 : a0.eval (.tmp 3) = .int .i64 (k : Int)) (z4 : a0.eval (.tmp 4) = .pointer (some ⟨xb, 0, none⟩))
    (hxb : xb < X.heap.size) (hb : b < X.heap.size) (hkb : kb < X.heap.size) (hkn : k < n) (hn : n * 56 ≤ 140737488355328) (hnc : n ≤ cap)
    (x0 : X.cell? ⟨xb, 0, none⟩ = some (.int .i64 x.kind)) (x1 : X.cell? ⟨xb, 1, none⟩ = some (str x.name)) (x2 : X.cell? ⟨xb, 2, none⟩ = some (.int .i64 x.cap.st)) (x3 : X.cell? ⟨xb, 3, none⟩ = some (.int .i64 x.cap.num)) (x4 : X.cell? ⟨xb, 4, none⟩ = some (str x.cap.text))
    (y1 : X.cell? ⟨b, 1, none⟩ = some (.bool wd)) (y5 : X.cell? ⟨b, 5, none⟩ = some (.slice (some ⟨kb, off, none⟩) n cap))
    (hj : k0 = true → k = j + 1 ∧ X.cell? ⟨kb, off + j * 5, none⟩ = some (.int .i64 pk)) (hk0 : k0 = decide (0 < k))
    (hb1 : b1 = decide (x.kind < 0)) (hb2 : b2 = decide (2 < x.kind)) (hb3 : b3 = decide (x.kind < pk)) (hg1 : g1 = (b1 || b2)) (hg2 : g2 = (g1 || (k0 && b3))) (hg3 : g3 = (g2 || !fit))
    (CF : ∀ W, Calls Tryz.prog 96 #[.agg #[.int .i64 x.cap.st, .int .i64 x.cap.num, str x.cap.text], .int .i64 x.kind, .bool wd] W fun e W' => e = .returned (.bool fit) ∧ Below W.heap.size W W')
    (CN : ∀ W, Below X.heap.size X W → Calls Tryz.prog 83 #[.slice (some ⟨kb, off, none⟩) k cap, str x.name] W fun e W' => e = .returned (.bool adp) ∧ Below W.heap.size W W') :
    ∀ i o, (regionOf Tryz.f44 9)[i]? = some o → ∀ L f W a, ValsJ X (refVals xb b kb off k j n cap x wd pk b1 b2 k0 b3 fit adp g1 g2 g3) L f W → ActAt (regionOf Tryz.f44 9) a0 a L f → L i = false → (∀ e ∈ o.after, Region.binds .any e = true → L e.on = true) →
      (∀ j o', (regionOf Tryz.f44 9)[j]? = some o' → L j = true → ∀ e ∈ o'.after, Region.binds .any e = true → L e.on = true) →
      wpOp Tryz.prog (regionOf Tryz.f44 9) Q i (fun a' W' => ∃ v, a' = a.put o.dst v ∧ ValsJ X (refVals xb b kb off k j n cap x wd pk b1 b2 k0 b3 fit adp g1 g2 g3) (upd L i true) (upd f i v) W') a W := by
  intro i o ho L f W a hJ hA _ hd _
  have hi : i < 44 := by rw [← refc_size]; exact (Array.getElem?_eq_some_iff.1 ho).1
  have dep : ∀ {op d g l}, opGs (regionOf Tryz.f44 9) i = some (op, d, g, l) → o.op = op ∧ o.guard = g ∧ ∀ j ∈ l, L j = true := fun h => by
    obtain ⟨e1, e2, e3⟩ := op_gs ho h
    refine ⟨e1, e2, fun j hj => ?_⟩
    obtain ⟨e, he, hb, rfl⟩ := e3 j hj
    exact hd e he hb
  have at1 : a.eval (.tmp 1) = .pointer (some ⟨b, 0, none⟩) := (hA.base (by kernel_rfl)).trans z1
  have at3 : a.eval (.tmp 3) = .int .i64 (k : Int) := (hA.base (by kernel_rfl)).trans z3
  have at4 : a.eval (.tmp 4) = .pointer (some ⟨xb, 0, none⟩) := (hA.base (by kernel_rfl)).trans z4
  have cellX : ∀ {p : Addr} {v : Value}, p.block < X.heap.size → X.cell? p = some v → W.cell? p = some v := fun hp hv => (hJ.below.cell hp).trans hv
  match i, hi with
  | 0, _ =>
    have hop : opGs (regionOf Tryz.f44 9) 0 = some (.fieldAddr 48 (.tmp 4) 0, some 52, none, []) := by kernel_rfl
    obtain ⟨e1, eg, hl⟩ := dep hop
    refine opg_value ho (wanted_all eg) (v := .pointer (some ⟨xb, 0, none⟩)) (w' := W) ?_ ⟨_, rfl, hJ.put rfl⟩
    revert at4
    generalize a.eval = ρ
    intro at4
    simp [execOp, e1, at4, go_sem]
  | 1, _ =>
    have hop : opGs (regionOf Tryz.f44 9) 1 = some (.load 3 (.tmp 52), some 53, none, [0]) := by kernel_rfl
    obtain ⟨e1, eg, hl⟩ := dep hop
    have q0 : f 0 = (.pointer (some ⟨xb, 0, none⟩)) := hJ.vals 0 (hl 0 (by decide))
    have t0 : a.eval (.tmp 52) = f 0 := hA.val (j := 0) (by kernel_rfl) (hl 0 (by decide))
    rw [q0] at t0
    refine opg_value ho (wanted_all eg) (v := .int .i64 x.kind) (w' := W) ?_ ⟨_, rfl, hJ.put rfl⟩
    have c0 := cellX (p := ⟨xb, 0, none⟩) hxb x0
    revert t0
    generalize a.eval = ρ
    intro t0
    simp [execOp, e1, t0, c0, go_sem]
  | 2, _ =>
    have hop : opGs (regionOf Tryz.f44 9) 2 = some (.binOp .lss 3 (.tmp 53) (.const (.int .i64 0)) 3, some 54, none, [1]) := by kernel_rfl
    obtain ⟨e1, eg, hl⟩ := dep hop
    have q1 : f 1 = (.int .i64 x.kind) := hJ.vals 1 (hl 1 (by decide))
    have t1 : a.eval (.tmp 53) = f 1 := hA.val (j := 1) (by kernel_rfl) (hl 1 (by decide))
    rw [q1] at t1
    have tc : ∀ v, a.eval (.const v) = v := fun _ => rfl
    refine opg_value ho (wanted_all eg) (v := .bool b1) (w' := W) ?_ ⟨_, rfl, hJ.put rfl⟩
    revert t1 tc
    generalize a.eval = ρ
    intro t1 tc
    simp [execOp, e1, t1, tc, hb1, go_sem]
  | 3, _ =>
    have hop : opGs (regionOf Tryz.f44 9) 3 = some (.move (.tmp 54), some 55, none, [2]) := by kernel_rfl
    obtain ⟨e1, eg, hl⟩ := dep hop
    have q2 : f 2 = (.bool b1) := hJ.vals 2 (hl 2 (by decide))
    have t2 : a.eval (.tmp 54) = f 2 := hA.val (j := 2) (by kernel_rfl) (hl 2 (by decide))
    rw [q2] at t2
    refine opg_value ho (wanted_all eg) (v := .bool b1) (w' := W) ?_ ⟨_, rfl, hJ.put rfl⟩
    revert t2
    generalize a.eval = ρ
    intro t2
    simp [execOp, e1, t2, go_sem]
  | 4, _ =>
    have hop : opGs (regionOf Tryz.f44 9) 4 = some (.fieldAddr 48 (.tmp 4) 0, some 56, some (3, false), [3]) := by kernel_rfl
    obtain ⟨e1, eg, hl⟩ := dep hop
    have q3 : f 3 = (.bool b1) := hJ.vals 3 (hl 3 (by decide))
    have yg := hA.yields (g := 3) (d := 55) (by kernel_rfl) (by kernel_rfl) (hl 3 (by decide))
    rw [q3] at yg
    cases b1
    · refine opg_value ho (wanted_yes eg yg) (v := .pointer (some ⟨xb, 0, none⟩)) (w' := W) ?_ ⟨_, rfl, hJ.put rfl⟩
      revert at4
      generalize a.eval = ρ
      intro at4
      simp [execOp, e1, at4, go_sem]
    · exact opg_pass ho (wanted_no eg (by rw [yg]; first | (simp; done) | (intro h; cases h))) ⟨undef, rfl, hJ.put rfl⟩
  | 5, _ =>
    have hop : opGs (regionOf Tryz.f44 9) 5 = some (.load 3 (.tmp 56), some 57, some (3, false), [4, 3]) := by kernel_rfl
    obtain ⟨e1, eg, hl⟩ := dep hop
    have q3 : f 3 = (.bool b1) := hJ.vals 3 (hl 3 (by decide))
    have q4 : f 4 = (bif !b1 then .pointer (some ⟨xb, 0, none⟩) else undef) := hJ.vals 4 (hl 4 (by decide))
    have t4 : a.eval (.tmp 56) = f 4 := hA.val (j := 4) (by kernel_rfl) (hl 4 (by decide))
    have yg := hA.yields (g := 3) (d := 55) (by kernel_rfl) (by kernel_rfl) (hl 3 (by decide))
    rw [q3] at yg
    rw [q4] at t4
    cases b1
    · refine opg_value ho (wanted_yes eg yg) (v := .int .i64 x.kind) (w' := W) ?_ ⟨_, rfl, hJ.put rfl⟩
      have c0 := cellX (p := ⟨xb, 0, none⟩) hxb x0
      revert t4
      generalize a.eval = ρ
      intro t4
      simp [execOp, e1, t4, c0, go_sem]
    · exact opg_pass ho (wanted_no eg (by rw [yg]; first | (simp; done) | (intro h; cases h))) ⟨undef, rfl, hJ.put rfl⟩
  | 6, _ =>
    have hop : opGs (regionOf Tryz.f44 9) 6 = some (.binOp .gtr 3 (.tmp 57) (.const (.int .i64 2)) 3, some 58, some (3, false), [5, 3]) := by kernel_rfl
    obtain ⟨e1, eg, hl⟩ := dep hop
    have q3 : f 3 = (.bool b1) := hJ.vals 3 (hl 3 (by decide))
    have q5 : f 5 = (bif !b1 then .int .i64 x.kind else undef) := hJ.vals 5 (hl 5 (by decide))
    have t5 : a.eval (.tmp 57) = f 5 := hA.val (j := 5) (by kernel_rfl) (hl 5 (by decide))
    have yg := hA.yields (g := 3) (d := 55) (by kernel_rfl) (by kernel_rfl) (hl 3 (by decide))
    rw [q3] at yg
    rw [q5] at t5
    have tc : ∀ v, a.eval (.const v) = v := fun _ => rfl
    cases b1
    · refine opg_value ho (wanted_yes eg yg) (v := .bool b2) (w' := W) ?_ ⟨_, rfl, hJ.put rfl⟩
      revert t5 tc
      generalize a.eval = ρ
      intro t5 tc
      simp [execOp, e1, t5, tc, hb2, go_sem]
    · exact opg_pass ho (wanted_no eg (by rw [yg]; first | (simp; done) | (intro h; cases h))) ⟨undef, rfl, hJ.put rfl⟩
  | 7, _ =>
    have hop : opGs (regionOf Tryz.f44 9) 7 = some (.pick (.tmp 55) (.const (.bool true)) (.tmp 58), some 59, none, [3, 6]) := by kernel_rfl
    obtain ⟨e1, eg, hl⟩ := dep hop
    have q3 : f 3 = (.bool b1) := hJ.vals 3 (hl 3 (by decide))
    have q6 : f 6 = (bif !b1 then .bool b2 else undef) := hJ.vals 6 (hl 6 (by decide))
    have t3 : a.eval (.tmp 55) = f 3 := hA.val (j := 3) (by kernel_rfl) (hl 3 (by decide))
    have t6 : a.eval (.tmp 58) = f 6 := hA.val (j := 6) (by kernel_rfl) (hl 6 (by decide))
    rw [q3] at t3
    rw [q6] at t6
    have tc : ∀ v, a.eval (.const v) = v := fun _ => rfl
    cases b1
    · refine opg_value ho (wanted_all eg) (v := .bool g1) (w' := W) ?_ ⟨_, rfl, hJ.put rfl⟩
      revert t3 t6 tc
      generalize a.eval = ρ
      intro t3 t6 tc
      simp [execOp, e1, t3, t6, tc, hg1, go_sem]
    · refine opg_value ho (wanted_all eg) (v := .bool g1) (w' := W) ?_ ⟨_, rfl, hJ.put rfl⟩
      revert t3 t6 tc
      generalize a.eval = ρ
      intro t3 t6 tc
      simp [execOp, e1, t3, t6, tc, hg1, go_sem]
  | 8, _ =>
    have hop : opGs (regionOf Tryz.f44 9) 8 = some (.move (.tmp 59), some 60, none, [7, 3]) := by kernel_rfl
    obtain ⟨e1, eg, hl⟩ := dep hop
    have q7 : f 7 = (.bool g1) := hJ.vals 7 (hl 7 (by decide))
    have t7 : a.eval (.tmp 59) = f 7 := hA.val (j := 7) (by kernel_rfl) (hl 7 (by decide))
    rw [q7] at t7
    refine opg_value ho (wanted_all eg) (v := .bool g1) (w' := W) ?_ ⟨_, rfl, hJ.put rfl⟩
    revert t7
    generalize a.eval = ρ
    intro t7
    simp [execOp, e1, t7, go_sem]
  | 9, _ =>
    have hop : opGs (regionOf Tryz.f44 9) 9 = some (.move (.tmp 3), some 61, some (8, false), [8]) := by kernel_rfl
    obtain ⟨e1, eg, hl⟩ := dep hop
    have q8 : f 8 = (.bool g1) := hJ.vals 8 (hl 8 (by decide))
    have yg := hA.yields (g := 8) (d := 60) (by kernel_rfl) (by kernel_rfl) (hl 8 (by decide))
    rw [q8] at yg
    cases g1
    · refine opg_value ho (wanted_yes eg yg) (v := .int .i64 (k : Int)) (w' := W) ?_ ⟨_, rfl, hJ.put rfl⟩
      revert at3
      generalize a.eval = ρ
      intro at3
      simp [execOp, e1, at3, go_sem]
    · exact opg_pass ho (wanted_no eg (by rw [yg]; first | (simp; done) | (intro h; cases h))) ⟨undef, rfl, hJ.put rfl⟩
  | 10, _ =>
    have hop : opGs (regionOf Tryz.f44 9) 10 = some (.binOp .gtr 3 (.tmp 61) (.const (.int .i64 0)) 3, some 62, some (8, false), [9, 8]) := by kernel_rfl
    obtain ⟨e1, eg, hl⟩ := dep hop
    have q8 : f 8 = (.bool g1) := hJ.vals 8 (hl 8 (by decide))
    have q9 : f 9 = (bif !g1 then .int .i64 (k : Int) else undef) := hJ.vals 9 (hl 9 (by decide))
    have t9 : a.eval (.tmp 61) = f 9 := hA.val (j := 9) (by kernel_rfl) (hl 9 (by decide))
    have yg := hA.yields (g := 8) (d := 60) (by kernel_rfl) (by kernel_rfl) (hl 8 (by decide))
    rw [q8] at yg
    rw [q9] at t9
    have tc : ∀ v, a.eval (.const v) = v := fun _ => rfl
    cases g1
    · refine opg_value ho (wanted_yes eg yg) (v := .bool k0) (w' := W) ?_ ⟨_, rfl, hJ.put rfl⟩
      revert t9 tc
      generalize a.eval = ρ
      intro t9 tc
      simp [execOp, e1, t9, tc, hk0, go_sem]
    · exact opg_pass ho (wanted_no eg (by rw [yg]; first | (simp; done) | (intro h; cases h))) ⟨undef, rfl, hJ.put rfl⟩
  | 11, _ =>
    have hop : opGs (regionOf Tryz.f44 9) 11 = some (.move (.tmp 62), some 63, some (8, false), [10, 8, 8]) := by kernel_rfl
    obtain ⟨e1, eg, hl⟩ := dep hop
    have q8 : f 8 = (.bool g1) := hJ.vals 8 (hl 8 (by decide))
    have q10 : f 10 = (bif !g1 then .bool k0 else undef) := hJ.vals 10 (hl 10 (by decide))
    have t10 : a.eval (.tmp 62) = f 10 := hA.val (j := 10) (by kernel_rfl) (hl 10 (by decide))
    have yg := hA.yields (g := 8) (d := 60) (by kernel_rfl) (by kernel_rfl) (hl 8 (by decide))
    rw [q8] at yg
    rw [q10] at t10
    cases g1
    · refine opg_value ho (wanted_yes eg yg) (v := .bool k0) (w' := W) ?_ ⟨_, rfl, hJ.put rfl⟩
      revert t10
      generalize a.eval = ρ
      intro t10
      simp [execOp, e1, t10, go_sem]
    · exact opg_pass ho (wanted_no eg (by rw [yg]; first | (simp; done) | (intro h; cases h))) ⟨undef, rfl, hJ.put rfl⟩
  | 12, _ =>
    have hop : opGs (regionOf Tryz.f44 9) 12 = some (.fieldAddr 48 (.tmp 4) 0, some 64, some (11, true), [11]) := by kernel_rfl
    obtain ⟨e1, eg, hl⟩ := dep hop
    have q11 : f 11 = (bif !g1 then .bool k0 else undef) := hJ.vals 11 (hl 11 (by decide))
    have yg := hA.yields (g := 11) (d := 63) (by kernel_rfl) (by kernel_rfl) (hl 11 (by decide))
    rw [q11] at yg
    cases g1
    · cases k0
      · exact opg_pass ho (wanted_no eg (by rw [yg]; first | (simp; done) | (intro h; cases h))) ⟨undef, rfl, hJ.put rfl⟩
      · refine opg_value ho (wanted_yes eg yg) (v := .pointer (some ⟨xb, 0, none⟩)) (w' := W) ?_ ⟨_, rfl, hJ.put rfl⟩
        revert at4
        generalize a.eval = ρ
        intro at4
        simp [execOp, e1, at4, go_sem]
    · cases k0
      · exact opg_pass ho (wanted_no eg (by rw [yg]; first | (simp; done) | (intro h; cases h))) ⟨undef, rfl, hJ.put rfl⟩
      · exact opg_pass ho (wanted_no eg (by rw [yg]; first | (simp; done) | (intro h; cases h))) ⟨undef, rfl, hJ.put rfl⟩
  | 13, _ =>
    have hop : opGs (regionOf Tryz.f44 9) 13 = some (.load 3 (.tmp 64), some 65, some (11, true), [12, 11]) := by kernel_rfl
    obtain ⟨e1, eg, hl⟩ := dep hop
    have q11 : f 11 = (bif !g1 then .bool k0 else undef) := hJ.vals 11 (hl 11 (by decide))
    have q12 : f 12 = (bif !g1 && k0 then .pointer (some ⟨xb, 0, none⟩) else undef) := hJ.vals 12 (hl 12 (by decide))
    have t12 : a.eval (.tmp 64) = f 12 := hA.val (j := 12) (by kernel_rfl) (hl 12 (by decide))
    have yg := hA.yields (g := 11) (d := 63) (by kernel_rfl) (by kernel_rfl) (hl 11 (by decide))
    rw [q11] at yg
    rw [q12] at t12
    cases g1
    · cases k0
      · exact opg_pass ho (wanted_no eg (by rw [yg]; first | (simp; done) | (intro h; cases h))) ⟨undef, rfl, hJ.put rfl⟩
      · refine opg_value ho (wanted_yes eg yg) (v := .int .i64 x.kind) (w' := W) ?_ ⟨_, rfl, hJ.put rfl⟩
        have c0 := cellX (p := ⟨xb, 0, none⟩) hxb x0
        revert t12
        generalize a.eval = ρ
        intro t12
        simp [execOp, e1, t12, c0, go_sem]
    · cases k0
      · exact opg_pass ho (wanted_no eg (by rw [yg]; first | (simp; done) | (intro h; cases h))) ⟨undef, rfl, hJ.put rfl⟩
      · exact opg_pass ho (wanted_no eg (by rw [yg]; first | (simp; done) | (intro h; cases h))) ⟨undef, rfl, hJ.put rfl⟩
  | 14, _ =>
    have hop : opGs (regionOf Tryz.f44 9) 14 = some (.fieldAddr 26 (.tmp 1) 5, some 66, some (11, true), [11]) := by kernel_rfl
    obtain ⟨e1, eg, hl⟩ := dep hop
    have q11 : f 11 = (bif !g1 then .bool k0 else undef) := hJ.vals 11 (hl 11 (by decide))
    have yg := hA.yields (g := 11) (d := 63) (by kernel_rfl) (by kernel_rfl) (hl 11 (by decide))
    rw [q11] at yg
    cases g1
    · cases k0
      · exact opg_pass ho (wanted_no eg (by rw [yg]; first | (simp; done) | (intro h; cases h))) ⟨undef, rfl, hJ.put rfl⟩
      · refine opg_value ho (wanted_yes eg yg) (v := .pointer (some ⟨b, 5, none⟩)) (w' := W) ?_ ⟨_, rfl, hJ.put rfl⟩
        revert at1
        generalize a.eval = ρ
        intro at1
        simp [execOp, e1, at1, go_sem]
    · cases k0
      · exact opg_pass ho (wanted_no eg (by rw [yg]; first | (simp; done) | (intro h; cases h))) ⟨undef, rfl, hJ.put rfl⟩
      · exact opg_pass ho (wanted_no eg (by rw [yg]; first | (simp; done) | (intro h; cases h))) ⟨undef, rfl, hJ.put rfl⟩
  | 15, _ =>
    have hop : opGs (regionOf Tryz.f44 9) 15 = some (.load 24 (.tmp 66), some 67, some (11, true), [14, 11]) := by kernel_rfl
    obtain ⟨e1, eg, hl⟩ := dep hop
    have q11 : f 11 = (bif !g1 then .bool k0 else undef) := hJ.vals 11 (hl 11 (by decide))
    have q14 : f 14 = (bif !g1 && k0 then .pointer (some ⟨b, 5, none⟩) else undef) := hJ.vals 14 (hl 14 (by decide))
    have t14 : a.eval (.tmp 66) = f 14 := hA.val (j := 14) (by kernel_rfl) (hl 14 (by decide))
    have yg := hA.yields (g := 11) (d := 63) (by kernel_rfl) (by kernel_rfl) (hl 11 (by decide))
    rw [q11] at yg
    rw [q14] at t14
    cases g1
    · cases k0
      · exact opg_pass ho (wanted_no eg (by rw [yg]; first | (simp; done) | (intro h; cases h))) ⟨undef, rfl, hJ.put rfl⟩
      · refine opg_value ho (wanted_yes eg yg) (v := .slice (some ⟨kb, off, none⟩) n cap) (w' := W) ?_ ⟨_, rfl, hJ.put rfl⟩
        have d5 := cellX (p := ⟨b, 5, none⟩) hb y5
        revert t14
        generalize a.eval = ρ
        intro t14
        simp [execOp, e1, t14, d5, go_sem]
    · cases k0
      · exact opg_pass ho (wanted_no eg (by rw [yg]; first | (simp; done) | (intro h; cases h))) ⟨undef, rfl, hJ.put rfl⟩
      · exact opg_pass ho (wanted_no eg (by rw [yg]; first | (simp; done) | (intro h; cases h))) ⟨undef, rfl, hJ.put rfl⟩
  | 16, _ =>
    have hop : opGs (regionOf Tryz.f44 9) 16 = some (.move (.tmp 3), some 68, some (11, true), [11]) := by kernel_rfl
    obtain ⟨e1, eg, hl⟩ := dep hop
    have q11 : f 11 = (bif !g1 then .bool k0 else undef) := hJ.vals 11 (hl 11 (by decide))
    have yg := hA.yields (g := 11) (d := 63) (by kernel_rfl) (by kernel_rfl) (hl 11 (by decide))
    rw [q11] at yg
    cases g1
    · cases k0
      · exact opg_pass ho (wanted_no eg (by rw [yg]; first | (simp; done) | (intro h; cases h))) ⟨undef, rfl, hJ.put rfl⟩
      · refine opg_value ho (wanted_yes eg yg) (v := .int .i64 (k : Int)) (w' := W) ?_ ⟨_, rfl, hJ.put rfl⟩
        revert at3
        generalize a.eval = ρ
        intro at3
        simp [execOp, e1, at3, go_sem]
    · cases k0
      · exact opg_pass ho (wanted_no eg (by rw [yg]; first | (simp; done) | (intro h; cases h))) ⟨undef, rfl, hJ.put rfl⟩
      · exact opg_pass ho (wanted_no eg (by rw [yg]; first | (simp; done) | (intro h; cases h))) ⟨undef, rfl, hJ.put rfl⟩
  | 17, _ =>
    have hop : opGs (regionOf Tryz.f44 9) 17 = some (.binOp .sub 3 (.tmp 68) (.const (.int .i64 1)) 3, some 69, some (11, true), [16, 11]) := by kernel_rfl
    obtain ⟨e1, eg, hl⟩ := dep hop
    have q11 : f 11 = (bif !g1 then .bool k0 else undef) := hJ.vals 11 (hl 11 (by decide))
    have q16 : f 16 = (bif !g1 && k0 then .int .i64 (k : Int) else undef) := hJ.vals 16 (hl 16 (by decide))
    have t16 : a.eval (.tmp 68) = f 16 := hA.val (j := 16) (by kernel_rfl) (hl 16 (by decide))
    have yg := hA.yields (g := 11) (d := 63) (by kernel_rfl) (by kernel_rfl) (hl 11 (by decide))
    rw [q11] at yg
    rw [q16] at t16
    have tc : ∀ v, a.eval (.const v) = v := fun _ => rfl
    cases g1
    · cases k0
      · exact opg_pass ho (wanted_no eg (by rw [yg]; first | (simp; done) | (intro h; cases h))) ⟨undef, rfl, hJ.put rfl⟩
      · obtain ⟨hk1, _⟩ := hj rfl
        have i3 : (k : Int) - 1 = (j : Int) := by omega
        have i1 : (0 : Int) ≤ (j : Int) := by omega
        have i2 : (j : Int) < (n : Int) := by omega
        refine opg_value ho (wanted_yes eg yg) (v := .int .i64 (j : Int)) (w' := W) ?_ ⟨_, rfl, hJ.put rfl⟩
        revert t16 tc
        generalize a.eval = ρ
        intro t16 tc
        simp [execOp, e1, t16, tc, i3, go_sem]
        rw [IntKind.wrap_i64]
        omega
    · cases k0
      · exact opg_pass ho (wanted_no eg (by rw [yg]; first | (simp; done) | (intro h; cases h))) ⟨undef, rfl, hJ.put rfl⟩
      · exact opg_pass ho (wanted_no eg (by rw [yg]; first | (simp; done) | (intro h; cases h))) ⟨undef, rfl, hJ.put rfl⟩
  | 18, _ =>
    have hop : opGs (regionOf Tryz.f44 9) 18 = some (.indexAddr 24 (.tmp 67) (.tmp 69), some 70, some (11, true), [15, 17, 11]) := by kernel_rfl
    obtain ⟨e1, eg, hl⟩ := dep hop
    have q11 : f 11 = (bif !g1 then .bool k0 else undef) := hJ.vals 11 (hl 11 (by decide))
    have q15 : f 15 = (bif !g1 && k0 then .slice (some ⟨kb, off, none⟩) n cap else undef) := hJ.vals 15 (hl 15 (by decide))
    have q17 : f 17 = (bif !g1 && k0 then .int .i64 (j : Int) else undef) := hJ.vals 17 (hl 17 (by decide))
    have t15 : a.eval (.tmp 67) = f 15 := hA.val (j := 15) (by kernel_rfl) (hl 15 (by decide))
    have t17 : a.eval (.tmp 69) = f 17 := hA.val (j := 17) (by kernel_rfl) (hl 17 (by decide))
    have yg := hA.yields (g := 11) (d := 63) (by kernel_rfl) (by kernel_rfl) (hl 11 (by decide))
    rw [q11] at yg
    rw [q15] at t15
    rw [q17] at t17
    cases g1
    · cases k0
      · exact opg_pass ho (wanted_no eg (by rw [yg]; first | (simp; done) | (intro h; cases h))) ⟨undef, rfl, hJ.put rfl⟩
      · obtain ⟨hk1, _⟩ := hj rfl
        have i3 : (k : Int) - 1 = (j : Int) := by omega
        have i1 : (0 : Int) ≤ (j : Int) := by omega
        have i2 : (j : Int) < (n : Int) := by omega
        refine opg_value ho (wanted_yes eg yg) (v := .pointer (some ⟨kb, off + j * 5, none⟩)) (w' := W) ?_ ⟨_, rfl, hJ.put rfl⟩
        revert t15 t17
        generalize a.eval = ρ
        intro t15 t17
        simp [execOp, e1, t15, t17, i1, i2, go_sem]
    · cases k0
      · exact opg_pass ho (wanted_no eg (by rw [yg]; first | (simp; done) | (intro h; cases h))) ⟨undef, rfl, hJ.put rfl⟩
      · exact opg_pass ho (wanted_no eg (by rw [yg]; first | (simp; done) | (intro h; cases h))) ⟨undef, rfl, hJ.put rfl⟩
  | 19, _ =>
    have hop : opGs (regionOf Tryz.f44 9) 19 = some (.fieldAddr 48 (.tmp 70) 0, some 71, some (11, true), [18, 11]) := by kernel_rfl
    obtain ⟨e1, eg, hl⟩ := dep hop
    have q11 : f 11 = (bif !g1 then .bool k0 else undef) := hJ.vals 11 (hl 11 (by decide))
    have q18 : f 18 = (bif !g1 && k0 then .pointer (some ⟨kb, off + j * 5, none⟩) else undef) := hJ.vals 18 (hl 18 (by decide))
    have t18 : a.eval (.tmp 70) = f 18 := hA.val (j := 18) (by kernel_rfl) (hl 18 (by decide))
    have yg := hA.yields (g := 11) (d := 63) (by kernel_rfl) (by kernel_rfl) (hl 11 (by decide))
    rw [q11] at yg
    rw [q18] at t18
    cases g1
    · cases k0
      · exact opg_pass ho (wanted_no eg (by rw [yg]; first | (simp; done) | (intro h; cases h))) ⟨undef, rfl, hJ.put rfl⟩
      · refine opg_value ho (wanted_yes eg yg) (v := .pointer (some ⟨kb, off + j * 5, none⟩)) (w' := W) ?_ ⟨_, rfl, hJ.put rfl⟩
        revert t18
        generalize a.eval = ρ
        intro t18
        simp [execOp, e1, t18, go_sem]
    · cases k0
      · exact opg_pass ho (wanted_no eg (by rw [yg]; first | (simp; done) | (intro h; cases h))) ⟨undef, rfl, hJ.put rfl⟩
      · exact opg_pass ho (wanted_no eg (by rw [yg]; first | (simp; done) | (intro h; cases h))) ⟨undef, rfl, hJ.put rfl⟩
  | 20, _ =>
    have hop : opGs (regionOf Tryz.f44 9) 20 = some (.load 3 (.tmp 71), some 72, some (11, true), [19, 11]) := by kernel_rfl
    obtain ⟨e1, eg, hl⟩ := dep hop
    have q11 : f 11 = (bif !g1 then .bool k0 else undef) := hJ.vals 11 (hl 11 (by decide))
    have q19 : f 19 = (bif !g1 && k0 then .pointer (some ⟨kb, off + j * 5, none⟩) else undef) := hJ.vals 19 (hl 19 (by decide))
    have t19 : a.eval (.tmp 71) = f 19 := hA.val (j := 19) (by kernel_rfl) (hl 19 (by decide))
    have yg := hA.yields (g := 11) (d := 63) (by kernel_rfl) (by kernel_rfl) (hl 11 (by decide))
    rw [q11] at yg
    rw [q19] at t19
    cases g1
    · cases k0
      · exact opg_pass ho (wanted_no eg (by rw [yg]; first | (simp; done) | (intro h; cases h))) ⟨undef, rfl, hJ.put rfl⟩
      · refine opg_value ho (wanted_yes eg yg) (v := .int .i64 pk) (w' := W) ?_ ⟨_, rfl, hJ.put rfl⟩
        have cp := cellX (p := ⟨kb, off + j * 5, none⟩) hkb (hj rfl).2
        revert t19
        generalize a.eval = ρ
        intro t19
        simp [execOp, e1, t19, cp, go_sem]
    · cases k0
      · exact opg_pass ho (wanted_no eg (by rw [yg]; first | (simp; done) | (intro h; cases h))) ⟨undef, rfl, hJ.put rfl⟩
      · exact opg_pass ho (wanted_no eg (by rw [yg]; first | (simp; done) | (intro h; cases h))) ⟨undef, rfl, hJ.put rfl⟩
  | 21, _ =>
    have hop : opGs (regionOf Tryz.f44 9) 21 = some (.binOp .lss 3 (.tmp 65) (.tmp 72) 3, some 73, some (11, true), [13, 20, 11]) := by kernel_rfl
    obtain ⟨e1, eg, hl⟩ := dep hop
    have q11 : f 11 = (bif !g1 then .bool k0 else undef) := hJ.vals 11 (hl 11 (by decide))
    have q13 : f 13 = (bif !g1 && k0 then .int .i64 x.kind else undef) := hJ.vals 13 (hl 13 (by decide))
    have q20 : f 20 = (bif !g1 && k0 then .int .i64 pk else undef) := hJ.vals 20 (hl 20 (by decide))
    have t13 : a.eval (.tmp 65) = f 13 := hA.val (j := 13) (by kernel_rfl) (hl 13 (by decide))
    have t20 : a.eval (.tmp 72) = f 20 := hA.val (j := 20) (by kernel_rfl) (hl 20 (by decide))
    have yg := hA.yields (g := 11) (d := 63) (by kernel_rfl) (by kernel_rfl) (hl 11 (by decide))
    rw [q11] at yg
    rw [q13] at t13
    rw [q20] at t20
    cases g1
    · cases k0
      · exact opg_pass ho (wanted_no eg (by rw [yg]; first | (simp; done) | (intro h; cases h))) ⟨undef, rfl, hJ.put rfl⟩
      · refine opg_value ho (wanted_yes eg yg) (v := .bool b3) (w' := W) ?_ ⟨_, rfl, hJ.put rfl⟩
        revert t13 t20
        generalize a.eval = ρ
        intro t13 t20
        simp [execOp, e1, t13, t20, hb3, go_sem]
    · cases k0
      · exact opg_pass ho (wanted_no eg (by rw [yg]; first | (simp; done) | (intro h; cases h))) ⟨undef, rfl, hJ.put rfl⟩
      · exact opg_pass ho (wanted_no eg (by rw [yg]; first | (simp; done) | (intro h; cases h))) ⟨undef, rfl, hJ.put rfl⟩
  | 22, _ =>
    have hop : opGs (regionOf Tryz.f44 9) 22 = some (.pick (.tmp 63) (.tmp 73) (.const (.bool false)), some 74, some (8, false), [11, 21, 8]) := by kernel_rfl
    obtain ⟨e1, eg, hl⟩ := dep hop
    have q8 : f 8 = (.bool g1) := hJ.vals 8 (hl 8 (by decide))
    have q11 : f 11 = (bif !g1 then .bool k0 else undef) := hJ.vals 11 (hl 11 (by decide))
    have q21 : f 21 = (bif !g1 && k0 then .bool b3 else undef) := hJ.vals 21 (hl 21 (by decide))
    have t11 : a.eval (.tmp 63) = f 11 := hA.val (j := 11) (by kernel_rfl) (hl 11 (by decide))
    have t21 : a.eval (.tmp 73) = f 21 := hA.val (j := 21) (by kernel_rfl) (hl 21 (by decide))
    have yg := hA.yields (g := 8) (d := 60) (by kernel_rfl) (by kernel_rfl) (hl 8 (by decide))
    rw [q8] at yg
    rw [q11] at t11
    rw [q21] at t21
    have tc : ∀ v, a.eval (.const v) = v := fun _ => rfl
    cases g1
    · refine opg_value ho (wanted_yes eg yg) (v := .bool (k0 && b3)) (w' := W) ?_ ⟨_, rfl, hJ.put rfl⟩
      revert t11 t21 tc
      generalize a.eval = ρ
      intro t11 t21 tc
      simp [execOp, e1, t11, t21, tc, go_sem]
      cases k0 <;> rfl
    · exact opg_pass ho (wanted_no eg (by rw [yg]; first | (simp; done) | (intro h; cases h))) ⟨undef, rfl, hJ.put rfl⟩
  | 23, _ =>
    have hop : opGs (regionOf Tryz.f44 9) 23 = some (.pick (.tmp 60) (.const (.bool true)) (.tmp 74), some 75, none, [8, 22]) := by kernel_rfl
    obtain ⟨e1, eg, hl⟩ := dep hop
    have q8 : f 8 = (.bool g1) := hJ.vals 8 (hl 8 (by decide))
    have q22 : f 22 = (bif !g1 then .bool (k0 && b3) else undef) := hJ.vals 22 (hl 22 (by decide))
    have t8 : a.eval (.tmp 60) = f 8 := hA.val (j := 8) (by kernel_rfl) (hl 8 (by decide))
    have t22 : a.eval (.tmp 74) = f 22 := hA.val (j := 22) (by kernel_rfl) (hl 22 (by decide))
    rw [q8] at t8
    rw [q22] at t22
    have tc : ∀ v, a.eval (.const v) = v := fun _ => rfl
    cases g1
    · refine opg_value ho (wanted_all eg) (v := .bool g2) (w' := W) ?_ ⟨_, rfl, hJ.put rfl⟩
      revert t8 t22 tc
      generalize a.eval = ρ
      intro t8 t22 tc
      simp [execOp, e1, t8, t22, tc, hg2, go_sem]
    · refine opg_value ho (wanted_all eg) (v := .bool g2) (w' := W) ?_ ⟨_, rfl, hJ.put rfl⟩
      revert t8 t22 tc
      generalize a.eval = ρ
      intro t8 t22 tc
      simp [execOp, e1, t8, t22, tc, hg2, go_sem]
  | 24, _ =>
    have hop : opGs (regionOf Tryz.f44 9) 24 = some (.move (.tmp 75), some 76, none, [23, 11]) := by kernel_rfl
    obtain ⟨e1, eg, hl⟩ := dep hop
    have q23 : f 23 = (.bool g2) := hJ.vals 23 (hl 23 (by decide))
    have t23 : a.eval (.tmp 75) = f 23 := hA.val (j := 23) (by kernel_rfl) (hl 23 (by decide))
    rw [q23] at t23
    refine opg_value ho (wanted_all eg) (v := .bool g2) (w' := W) ?_ ⟨_, rfl, hJ.put rfl⟩
    revert t23
    generalize a.eval = ρ
    intro t23
    simp [execOp, e1, t23, go_sem]
  | 25, _ =>
    have hop : opGs (regionOf Tryz.f44 9) 25 = some (.fieldAddr 48 (.tmp 4) 2, some 77, some (24, false), [24]) := by kernel_rfl
    obtain ⟨e1, eg, hl⟩ := dep hop
    have q24 : f 24 = (.bool g2) := hJ.vals 24 (hl 24 (by decide))
    have yg := hA.yields (g := 24) (d := 76) (by kernel_rfl) (by kernel_rfl) (hl 24 (by decide))
    rw [q24] at yg
    cases g2
    · refine opg_value ho (wanted_yes eg yg) (v := .pointer (some ⟨xb, 2, none⟩)) (w' := W) ?_ ⟨_, rfl, hJ.put rfl⟩
      revert at4
      generalize a.eval = ρ
      intro at4
      simp [execOp, e1, at4, go_sem]
    · exact opg_pass ho (wanted_no eg (by rw [yg]; first | (simp; done) | (intro h; cases h))) ⟨undef, rfl, hJ.put rfl⟩
  | 26, _ =>
    have hop : opGs (regionOf Tryz.f44 9) 26 = some (.load 37 (.tmp 77), some 78, some (24, false), [25, 24]) := by kernel_rfl
    obtain ⟨e1, eg, hl⟩ := dep hop
    have q24 : f 24 = (.bool g2) := hJ.vals 24 (hl 24 (by decide))
    have q25 : f 25 = (bif !g2 then .pointer (some ⟨xb, 2, none⟩) else undef) := hJ.vals 25 (hl 25 (by decide))
    have t25 : a.eval (.tmp 77) = f 25 := hA.val (j := 25) (by kernel_rfl) (hl 25 (by decide))
    have yg := hA.yields (g := 24) (d := 76) (by kernel_rfl) (by kernel_rfl) (hl 24 (by decide))
    rw [q24] at yg
    rw [q25] at t25
    cases g2
    · refine opg_value ho (wanted_yes eg yg) (v := .agg #[.int .i64 x.cap.st, .int .i64 x.cap.num, str x.cap.text]) (w' := W) ?_ ⟨_, rfl, hJ.put rfl⟩
      have c2 := cellX (p := ⟨xb, 2, none⟩) hxb x2
      have c3 := cellX (p := ⟨xb, 3, none⟩) hxb x3
      have c4 := cellX (p := ⟨xb, 4, none⟩) hxb x4
      revert t25
      generalize a.eval = ρ
      intro t25
      simp [execOp, e1, t25, c2, c3, c4, go_sem]
    · exact opg_pass ho (wanted_no eg (by rw [yg]; first | (simp; done) | (intro h; cases h))) ⟨undef, rfl, hJ.put rfl⟩
  | 27, _ =>
    have hop : opGs (regionOf Tryz.f44 9) 27 = some (.fieldAddr 48 (.tmp 4) 0, some 79, some (24, false), [24]) := by kernel_rfl
    obtain ⟨e1, eg, hl⟩ := dep hop
    have q24 : f 24 = (.bool g2) := hJ.vals 24 (hl 24 (by decide))
    have yg := hA.yields (g := 24) (d := 76) (by kernel_rfl) (by kernel_rfl) (hl 24 (by decide))
    rw [q24] at yg
    cases g2
    · refine opg_value ho (wanted_yes eg yg) (v := .pointer (some ⟨xb, 0, none⟩)) (w' := W) ?_ ⟨_, rfl, hJ.put rfl⟩
      revert at4
      generalize a.eval = ρ
      intro at4
      simp [execOp, e1, at4, go_sem]
    · exact opg_pass ho (wanted_no eg (by rw [yg]; first | (simp; done) | (intro h; cases h))) ⟨undef, rfl, hJ.put rfl⟩
  | 28, _ =>
    have hop : opGs (regionOf Tryz.f44 9) 28 = some (.load 3 (.tmp 79), some 80, some (24, false), [27, 24]) := by kernel_rfl
    obtain ⟨e1, eg, hl⟩ := dep hop
    have q24 : f 24 = (.bool g2) := hJ.vals 24 (hl 24 (by decide))
    have q27 : f 27 = (bif !g2 then .pointer (some ⟨xb, 0, none⟩) else undef) := hJ.vals 27 (hl 27 (by decide))
    have t27 : a.eval (.tmp 79) = f 27 := hA.val (j := 27) (by kernel_rfl) (hl 27 (by decide))
    have yg := hA.yields (g := 24) (d := 76) (by kernel_rfl) (by kernel_rfl) (hl 24 (by decide))
    rw [q24] at yg
    rw [q27] at t27
    cases g2
    · refine opg_value ho (wanted_yes eg yg) (v := .int .i64 x.kind) (w' := W) ?_ ⟨_, rfl, hJ.put rfl⟩
      have c0 := cellX (p := ⟨xb, 0, none⟩) hxb x0
      revert t27
      generalize a.eval = ρ
      intro t27
      simp [execOp, e1, t27, c0, go_sem]
    · exact opg_pass ho (wanted_no eg (by rw [yg]; first | (simp; done) | (intro h; cases h))) ⟨undef, rfl, hJ.put rfl⟩
  | 29, _ =>
    have hop : opGs (regionOf Tryz.f44 9) 29 = some (.fieldAddr 26 (.tmp 1) 1, some 81, some (24, false), [24]) := by kernel_rfl
    obtain ⟨e1, eg, hl⟩ := dep hop
    have q24 : f 24 = (.bool g2) := hJ.vals 24 (hl 24 (by decide))
    have yg := hA.yields (g := 24) (d := 76) (by kernel_rfl) (by kernel_rfl) (hl 24 (by decide))
    rw [q24] at yg
    cases g2
    · refine opg_value ho (wanted_yes eg yg) (v := .pointer (some ⟨b, 1, none⟩)) (w' := W) ?_ ⟨_, rfl, hJ.put rfl⟩
      revert at1
      generalize a.eval = ρ
      intro at1
      simp [execOp, e1, at1, go_sem]
    · exact opg_pass ho (wanted_no eg (by rw [yg]; first | (simp; done) | (intro h; cases h))) ⟨undef, rfl, hJ.put rfl⟩
  | 30, _ =>
    have hop : opGs (regionOf Tryz.f44 9) 30 = some (.load 4 (.tmp 81), some 82, some (24, false), [29, 24]) := by kernel_rfl
    obtain ⟨e1, eg, hl⟩ := dep hop
    have q24 : f 24 = (.bool g2) := hJ.vals 24 (hl 24 (by decide))
    have q29 : f 29 = (bif !g2 then .pointer (some ⟨b, 1, none⟩) else undef) := hJ.vals 29 (hl 29 (by decide))
    have t29 : a.eval (.tmp 81) = f 29 := hA.val (j := 29) (by kernel_rfl) (hl 29 (by decide))
    have yg := hA.yields (g := 24) (d := 76) (by kernel_rfl) (by kernel_rfl) (hl 24 (by decide))
    rw [q24] at yg
    rw [q29] at t29
    cases g2
    · refine opg_value ho (wanted_yes eg yg) (v := .bool wd) (w' := W) ?_ ⟨_, rfl, hJ.put rfl⟩
      have d1 := cellX (p := ⟨b, 1, none⟩) hb y1
      revert t29
      generalize a.eval = ρ
      intro t29
      simp [execOp, e1, t29, d1, go_sem]
    · exact opg_pass ho (wanted_no eg (by rw [yg]; first | (simp; done) | (intro h; cases h))) ⟨undef, rfl, hJ.put rfl⟩
  | 31, _ =>
    have hop : opGs (regionOf Tryz.f44 9) 31 = some (.call { callee := .value (.func 96), args := #[.tmp 78, .tmp 80, .tmp 82], argTypes := #[37, 3, 4] }, some 83, some (24, false), [26, 28, 30, 24, 24]) := by kernel_rfl
    obtain ⟨e1, eg, hl⟩ := dep hop
    have q24 : f 24 = (.bool g2) := hJ.vals 24 (hl 24 (by decide))
    have q26 : f 26 = (bif !g2 then .agg #[.int .i64 x.cap.st, .int .i64 x.cap.num, str x.cap.text] else undef) := hJ.vals 26 (hl 26 (by decide))
    have q28 : f 28 = (bif !g2 then .int .i64 x.kind else undef) := hJ.vals 28 (hl 28 (by decide))
    have q30 : f 30 = (bif !g2 then .bool wd else undef) := hJ.vals 30 (hl 30 (by decide))
    have t26 : a.eval (.tmp 78) = f 26 := hA.val (j := 26) (by kernel_rfl) (hl 26 (by decide))
    have t28 : a.eval (.tmp 80) = f 28 := hA.val (j := 28) (by kernel_rfl) (hl 28 (by decide))
    have t30 : a.eval (.tmp 82) = f 30 := hA.val (j := 30) (by kernel_rfl) (hl 30 (by decide))
    have yg := hA.yields (g := 24) (d := 76) (by kernel_rfl) (by kernel_rfl) (hl 24 (by decide))
    rw [q24] at yg
    rw [q26] at t26
    rw [q28] at t28
    rw [q30] at t30
    cases g2
    · refine opg_call ho (wanted_yes eg yg) (g := 96) (args := #[.agg #[.int .i64 x.cap.st, .int .i64 x.cap.num, str x.cap.text], .int .i64 x.kind, .bool wd]) (w' := W) ?_ ((CF W).mono ?_)
      · have hb : a.eval (.func 96) = .func (.func 96) #[] #[] := rfl
        have hx : ∀ args w, (callFunc 96 args).run Tryz.prog w = .ok (.enter 96 args) w := enters_of Tryz.func96 (by kernel_rfl) rfl
        revert hb t26 t28 t30
        generalize a.eval = ρ
        intro hb t26 t28 t30
        simp [execOp, e1, hb, hx, t26, t28, t30, go_sem]
      · rintro e W' ⟨rfl, hb⟩
        exact ⟨.bool fit, rfl, _, rfl, (hJ.next hb).put rfl⟩
    · exact opg_pass ho (wanted_no eg (by rw [yg]; first | (simp; done) | (intro h; cases h))) ⟨undef, rfl, hJ.put rfl⟩
  | 32, _ =>
    have hop : opGs (regionOf Tryz.f44 9) 32 = some (.unOp .not 4 (.tmp 83), some 84, some (24, false), [31, 24]) := by kernel_rfl
    obtain ⟨e1, eg, hl⟩ := dep hop
    have q24 : f 24 = (.bool g2) := hJ.vals 24 (hl 24 (by decide))
    have q31 : f 31 = (bif !g2 then .bool fit else undef) := hJ.vals 31 (hl 31 (by decide))
    have t31 : a.eval (.tmp 83) = f 31 := hA.val (j := 31) (by kernel_rfl) (hl 31 (by decide))
    have yg := hA.yields (g := 24) (d := 76) (by kernel_rfl) (by kernel_rfl) (hl 24 (by decide))
    rw [q24] at yg
    rw [q31] at t31
    cases g2
    · refine opg_value ho (wanted_yes eg yg) (v := .bool (!fit)) (w' := W) ?_ ⟨_, rfl, hJ.put rfl⟩
      revert t31
      generalize a.eval = ρ
      intro t31
      simp [execOp, e1, t31, go_sem]
    · exact opg_pass ho (wanted_no eg (by rw [yg]; first | (simp; done) | (intro h; cases h))) ⟨undef, rfl, hJ.put rfl⟩
  | 33, _ =>
    have hop : opGs (regionOf Tryz.f44 9) 33 = some (.pick (.tmp 76) (.const (.bool true)) (.tmp 84), some 85, none, [24, 32]) := by kernel_rfl
    obtain ⟨e1, eg, hl⟩ := dep hop
    have q24 : f 24 = (.bool g2) := hJ.vals 24 (hl 24 (by decide))
    have q32 : f 32 = (bif !g2 then .bool (!fit) else undef) := hJ.vals 32 (hl 32 (by decide))
    have t24 : a.eval (.tmp 76) = f 24 := hA.val (j := 24) (by kernel_rfl) (hl 24 (by decide))
    have t32 : a.eval (.tmp 84) = f 32 := hA.val (j := 32) (by kernel_rfl) (hl 32 (by decide))
    rw [q24] at t24
    rw [q32] at t32
    have tc : ∀ v, a.eval (.const v) = v := fun _ => rfl
    cases g2
    · refine opg_value ho (wanted_all eg) (v := .bool g3) (w' := W) ?_ ⟨_, rfl, hJ.put rfl⟩
      revert t24 t32 tc
      generalize a.eval = ρ
      intro t24 t32 tc
      simp [execOp, e1, t24, t32, tc, hg3, go_sem]
    · refine opg_value ho (wanted_all eg) (v := .bool g3) (w' := W) ?_ ⟨_, rfl, hJ.put rfl⟩
      revert t24 t32 tc
      generalize a.eval = ρ
      intro t24 t32 tc
      simp [execOp, e1, t24, t32, tc, hg3, go_sem]
  | 34, _ =>
    have hop : opGs (regionOf Tryz.f44 9) 34 = some (.move (.tmp 85), some 86, none, [33, 31]) := by kernel_rfl
    obtain ⟨e1, eg, hl⟩ := dep hop
    have q33 : f 33 = (.bool g3) := hJ.vals 33 (hl 33 (by decide))
    have t33 : a.eval (.tmp 85) = f 33 := hA.val (j := 33) (by kernel_rfl) (hl 33 (by decide))
    rw [q33] at t33
    refine opg_value ho (wanted_all eg) (v := .bool g3) (w' := W) ?_ ⟨_, rfl, hJ.put rfl⟩
    revert t33
    generalize a.eval = ρ
    intro t33
    simp [execOp, e1, t33, go_sem]
  | 35, _ =>
    have hop : opGs (regionOf Tryz.f44 9) 35 = some (.fieldAddr 26 (.tmp 1) 5, some 87, some (34, false), [34]) := by kernel_rfl
    obtain ⟨e1, eg, hl⟩ := dep hop
    have q34 : f 34 = (.bool g3) := hJ.vals 34 (hl 34 (by decide))
    have yg := hA.yields (g := 34) (d := 86) (by kernel_rfl) (by kernel_rfl) (hl 34 (by decide))
    rw [q34] at yg
    cases g3
    · refine opg_value ho (wanted_yes eg yg) (v := .pointer (some ⟨b, 5, none⟩)) (w' := W) ?_ ⟨_, rfl, hJ.put rfl⟩
      revert at1
      generalize a.eval = ρ
      intro at1
      simp [execOp, e1, at1, go_sem]
    · exact opg_pass ho (wanted_no eg (by rw [yg]; first | (simp; done) | (intro h; cases h))) ⟨undef, rfl, hJ.put rfl⟩
  | 36, _ =>
    have hop : opGs (regionOf Tryz.f44 9) 36 = some (.load 24 (.tmp 87), some 88, some (34, false), [35, 34]) := by kernel_rfl
    obtain ⟨e1, eg, hl⟩ := dep hop
    have q34 : f 34 = (.bool g3) := hJ.vals 34 (hl 34 (by decide))
    have q35 : f 35 = (bif !g3 then .pointer (some ⟨b, 5, none⟩) else undef) := hJ.vals 35 (hl 35 (by decide))
    have t35 : a.eval (.tmp 87) = f 35 := hA.val (j := 35) (by kernel_rfl) (hl 35 (by decide))
    have yg := hA.yields (g := 34) (d := 86) (by kernel_rfl) (by kernel_rfl) (hl 34 (by decide))
    rw [q34] at yg
    rw [q35] at t35
    cases g3
    · refine opg_value ho (wanted_yes eg yg) (v := .slice (some ⟨kb, off, none⟩) n cap) (w' := W) ?_ ⟨_, rfl, hJ.put rfl⟩
      have d5 := cellX (p := ⟨b, 5, none⟩) hb y5
      revert t35
      generalize a.eval = ρ
      intro t35
      simp [execOp, e1, t35, d5, go_sem]
    · exact opg_pass ho (wanted_no eg (by rw [yg]; first | (simp; done) | (intro h; cases h))) ⟨undef, rfl, hJ.put rfl⟩
  | 37, _ =>
    have hop : opGs (regionOf Tryz.f44 9) 37 = some (.move (.tmp 3), some 89, some (34, false), [34]) := by kernel_rfl
    obtain ⟨e1, eg, hl⟩ := dep hop
    have q34 : f 34 = (.bool g3) := hJ.vals 34 (hl 34 (by decide))
    have yg := hA.yields (g := 34) (d := 86) (by kernel_rfl) (by kernel_rfl) (hl 34 (by decide))
    rw [q34] at yg
    cases g3
    · refine opg_value ho (wanted_yes eg yg) (v := .int .i64 (k : Int)) (w' := W) ?_ ⟨_, rfl, hJ.put rfl⟩
      revert at3
      generalize a.eval = ρ
      intro at3
      simp [execOp, e1, at3, go_sem]
    · exact opg_pass ho (wanted_no eg (by rw [yg]; first | (simp; done) | (intro h; cases h))) ⟨undef, rfl, hJ.put rfl⟩
  | 38, _ =>
    have hop : opGs (regionOf Tryz.f44 9) 38 = some (.slice 24 (.tmp 88) none (some (.tmp 89)) none, some 90, some (34, false), [36, 37, 34]) := by kernel_rfl
    obtain ⟨e1, eg, hl⟩ := dep hop
    have q34 : f 34 = (.bool g3) := hJ.vals 34 (hl 34 (by decide))
    have q36 : f 36 = (bif !g3 then .slice (some ⟨kb, off, none⟩) n cap else undef) := hJ.vals 36 (hl 36 (by decide))
    have q37 : f 37 = (bif !g3 then .int .i64 (k : Int) else undef) := hJ.vals 37 (hl 37 (by decide))
    have t36 : a.eval (.tmp 88) = f 36 := hA.val (j := 36) (by kernel_rfl) (hl 36 (by decide))
    have t37 : a.eval (.tmp 89) = f 37 := hA.val (j := 37) (by kernel_rfl) (hl 37 (by decide))
    have yg := hA.yields (g := 34) (d := 86) (by kernel_rfl) (by kernel_rfl) (hl 34 (by decide))
    rw [q34] at yg
    rw [q36] at t36
    rw [q37] at t37
    cases g3
    · have i4 : (0 : Int) ≤ (k : Int) := by omega
      have i5 : (k : Int) ≤ (cap : Int) := by omega
      refine opg_value ho (wanted_yes eg yg) (v := .slice (some ⟨kb, off, none⟩) k cap) (w' := W) ?_ ⟨_, rfl, hJ.put rfl⟩
      revert t36 t37
      generalize a.eval = ρ
      intro t36 t37
      simp [execOp, e1, t36, t37, i4, i5, go_sem]
    · exact opg_pass ho (wanted_no eg (by rw [yg]; first | (simp; done) | (intro h; cases h))) ⟨undef, rfl, hJ.put rfl⟩
  | 39, _ =>
    have hop : opGs (regionOf Tryz.f44 9) 39 = some (.fieldAddr 48 (.tmp 4) 1, some 91, some (34, false), [34]) := by kernel_rfl
    obtain ⟨e1, eg, hl⟩ := dep hop
    have q34 : f 34 = (.bool g3) := hJ.vals 34 (hl 34 (by decide))
    have yg := hA.yields (g := 34) (d := 86) (by kernel_rfl) (by kernel_rfl) (hl 34 (by decide))
    rw [q34] at yg
    cases g3
    · refine opg_value ho (wanted_yes eg yg) (v := .pointer (some ⟨xb, 1, none⟩)) (w' := W) ?_ ⟨_, rfl, hJ.put rfl⟩
      revert at4
      generalize a.eval = ρ
      intro at4
      simp [execOp, e1, at4, go_sem]
    · exact opg_pass ho (wanted_no eg (by rw [yg]; first | (simp; done) | (intro h; cases h))) ⟨undef, rfl, hJ.put rfl⟩
  | 40, _ =>
    have hop : opGs (regionOf Tryz.f44 9) 40 = some (.load 9 (.tmp 91), some 92, some (34, false), [39, 34]) := by kernel_rfl
    obtain ⟨e1, eg, hl⟩ := dep hop
    have q34 : f 34 = (.bool g3) := hJ.vals 34 (hl 34 (by decide))
    have q39 : f 39 = (bif !g3 then .pointer (some ⟨xb, 1, none⟩) else undef) := hJ.vals 39 (hl 39 (by decide))
    have t39 : a.eval (.tmp 91) = f 39 := hA.val (j := 39) (by kernel_rfl) (hl 39 (by decide))
    have yg := hA.yields (g := 34) (d := 86) (by kernel_rfl) (by kernel_rfl) (hl 34 (by decide))
    rw [q34] at yg
    rw [q39] at t39
    cases g3
    · refine opg_value ho (wanted_yes eg yg) (v := str x.name) (w' := W) ?_ ⟨_, rfl, hJ.put rfl⟩
      have c1 := cellX (p := ⟨xb, 1, none⟩) hxb x1
      revert t39
      generalize a.eval = ρ
      intro t39
      simp [execOp, e1, t39, c1, go_sem]
    · exact opg_pass ho (wanted_no eg (by rw [yg]; first | (simp; done) | (intro h; cases h))) ⟨undef, rfl, hJ.put rfl⟩
  | 41, _ =>
    have hop : opGs (regionOf Tryz.f44 9) 41 = some (.call { callee := .value (.func 83), args := #[.tmp 90, .tmp 92], argTypes := #[24, 9] }, some 93, some (34, false), [38, 40, 34, 34]) := by kernel_rfl
    obtain ⟨e1, eg, hl⟩ := dep hop
    have q34 : f 34 = (.bool g3) := hJ.vals 34 (hl 34 (by decide))
    have q38 : f 38 = (bif !g3 then .slice (some ⟨kb, off, none⟩) k cap else undef) := hJ.vals 38 (hl 38 (by decide))
    have q40 : f 40 = (bif !g3 then str x.name else undef) := hJ.vals 40 (hl 40 (by decide))
    have t38 : a.eval (.tmp 90) = f 38 := hA.val (j := 38) (by kernel_rfl) (hl 38 (by decide))
    have t40 : a.eval (.tmp 92) = f 40 := hA.val (j := 40) (by kernel_rfl) (hl 40 (by decide))
    have yg := hA.yields (g := 34) (d := 86) (by kernel_rfl) (by kernel_rfl) (hl 34 (by decide))
    rw [q34] at yg
    rw [q38] at t38
    rw [q40] at t40
    cases g3
    · refine opg_call ho (wanted_yes eg yg) (g := 83) (args := #[.slice (some ⟨kb, off, none⟩) k cap, str x.name]) (w' := W) ?_ ((CN W hJ.below).mono ?_)
      · have hb : a.eval (.func 83) = .func (.func 83) #[] #[] := rfl
        have hx : ∀ args w, (callFunc 83 args).run Tryz.prog w = .ok (.enter 83 args) w := enters_of Tryz.func83 (by kernel_rfl) rfl
        revert hb t38 t40
        generalize a.eval = ρ
        intro hb t38 t40
        simp [execOp, e1, hb, hx, t38, t40, go_sem]
      · rintro e W' ⟨rfl, hb⟩
        exact ⟨.bool adp, rfl, _, rfl, (hJ.next hb).put rfl⟩
    · exact opg_pass ho (wanted_no eg (by rw [yg]; first | (simp; done) | (intro h; cases h))) ⟨undef, rfl, hJ.put rfl⟩
  | 42, _ =>
    have hop : opGs (regionOf Tryz.f44 9) 42 = some (.unOp .not 4 (.tmp 93), some 94, some (34, false), [41, 34]) := by kernel_rfl
    obtain ⟨e1, eg, hl⟩ := dep hop
    have q34 : f 34 = (.bool g3) := hJ.vals 34 (hl 34 (by decide))
    have q41 : f 41 = (bif !g3 then .bool adp else undef) := hJ.vals 41 (hl 41 (by decide))
    have t41 : a.eval (.tmp 93) = f 41 := hA.val (j := 41) (by kernel_rfl) (hl 41 (by decide))
    have yg := hA.yields (g := 34) (d := 86) (by kernel_rfl) (by kernel_rfl) (hl 34 (by decide))
    rw [q34] at yg
    rw [q41] at t41
    cases g3
    · refine opg_value ho (wanted_yes eg yg) (v := .bool (!adp)) (w' := W) ?_ ⟨_, rfl, hJ.put rfl⟩
      revert t41
      generalize a.eval = ρ
      intro t41
      simp [execOp, e1, t41, go_sem]
    · exact opg_pass ho (wanted_no eg (by rw [yg]; first | (simp; done) | (intro h; cases h))) ⟨undef, rfl, hJ.put rfl⟩
  | 43, _ =>
    have hop : opGs (regionOf Tryz.f44 9) 43 = some (.pick (.tmp 86) (.const (.bool true)) (.tmp 94), some 95, none, [34, 42]) := by kernel_rfl
    obtain ⟨e1, eg, hl⟩ := dep hop
    have q34 : f 34 = (.bool g3) := hJ.vals 34 (hl 34 (by decide))
    have q42 : f 42 = (bif !g3 then .bool (!adp) else undef) := hJ.vals 42 (hl 42 (by decide))
    have t34 : a.eval (.tmp 86) = f 34 := hA.val (j := 34) (by kernel_rfl) (hl 34 (by decide))
    have t42 : a.eval (.tmp 94) = f 42 := hA.val (j := 42) (by kernel_rfl) (hl 42 (by decide))
    rw [q34] at t34
    rw [q42] at t42
    have tc : ∀ v, a.eval (.const v) = v := fun _ => rfl
    cases g3
    · refine opg_value ho (wanted_all eg) (v := .bool (false || !adp)) (w' := W) ?_ ⟨_, rfl, hJ.put rfl⟩
      revert t34 t42 tc
      generalize a.eval = ρ
      intro t34 t42 tc
      simp [execOp, e1, t34, t42, tc, go_sem]
    · refine opg_value ho (wanted_all eg) (v := .bool (true || !adp)) (w' := W) ?_ ⟨_, rfl, hJ.put rfl⟩
      revert t34 t42 tc
      generalize a.eval = ρ
      intro t34 t42 tc
      simp [execOp, e1, t34, t42, tc, go_sem]

end Go.Proofs.YtcfgppjhgobboaaGreatDoor
