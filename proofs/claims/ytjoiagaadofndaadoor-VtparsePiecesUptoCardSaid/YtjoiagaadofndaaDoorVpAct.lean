/-
  The action that a sequence comes to.
-/
import Derived.Test.YtjoiagaadofndaaDoorVpColl
import Derived.Test.YtjoiagaadofndaaDoorVpReg
namespace Go.Proofs.YtjoiagaadofndaaDoor
open Go.RowKit Go.Shelf Go.Lib
attribute [local go_sem] Oper.semAt_some

theorem step_append_run {P : Program} {ops : Array Oper} {o : Oper} {a : Act} {K : Act → World → Prop} {Q : Exit → Act → World → Prop} {E : Prop} {w w' : World} {t ty : TypeId} {u1 u2 v' : Value} (hrun : (Builtin.append_ #[t, t] ty #[u1, u2]).run P w = .ok v' w') (hgd : o.guard = none) (s x : Operand)
    (ho : o.op = .call { callee := .builtin .append, args := #[s, x], argTypes := #[t, t] }) (hty : o.type = ty) (hs : a.eval s = u1) (hx : a.eval x = u2) (h : K (a.put o.dst v') w') :
    if Region.wanted o (yielded ops a.tmps) = true then Oper.wp P o a w K Q else E := by
  have hw : Region.wanted o (yielded ops a.tmps) = true := by simp [Region.wanted, hgd]
  rw [if_pos hw]
  unfold Oper.wp execOp
  simp only [ho, resolve, invoke, builtin, Sem.run_bind, Sem.run_pure, Result.andThen_ok, List.map_toArray, List.map_cons, List.map_nil, hs, hx, hty, hrun]
  exact h

theorem take_src {w : World} {g : Nat} {R : Raw} (h : RawAt w g R) (ok : RawOk R) : Src w 1 (some ⟨g, 9, none⟩) 16 R.c (intVals (R.L.take R.c)) := by
  have h16 := ok.c16
  refine ⟨?_, (fun e => by cases e), fun _ => ⟨g, 9, rfl, h.lt, fun j u hu => ?_⟩⟩
  · rw [intVals_length, List.length_take, ok.L16]; omega
  · have hj : j < R.c := by
      have := (List.getElem?_eq_some_iff.1 hu).1
      rw [intVals_length, List.length_take, ok.L16] at this
      omega
    refine h.cell ?_
    rw [row_L ok j (by omega), ← hu]
    simp only [intVals, List.getElem?_map, List.getElem?_take]
    rw [if_pos hj]
theorem intVals_one (l : List Int) : ∀ u ∈ intVals l, u.oneCell' = true := by
  intro u hu
  simp only [intVals, List.mem_map] at hu
  obtain ⟨b, _, rfl⟩ := hu
  rfl
theorem params_run {w : World} {g : Nat} {R : Raw} (h : RawAt w g R) (ok : RawOk R) (ty : TypeId) :
    ∃ v' w', (Builtin.append_ #[37, 37] ty #[.slice none 0 0, .slice (some ⟨g, 9, none⟩) R.c 16]).run Tryd.prog w = .ok v' w' ∧ IntRow w' w.heap.size v' (R.L.take R.c) ∧ Below w.heap.size w w' := by
  obtain ⟨i, hi, hz, hs2, hby⟩ := info_parts info_i64
  have h16 := ok.c16
  obtain ⟨v', w', hr, h4, h5, _⟩ := run_append_src (P := Tryd.prog) w w.heap.size 37 ty 3 i _ 1 8 Tryd.underlying37 hi hz hs2 hby rfl (by decide) (.slice none 0 0) 0 [] (World.ownsRow_nil _ _ _ _) (take_src h ok) (intVals_one _) (by unfold maxLen; omega) (by omega) (Nat.le_refl _)
  refine ⟨v', w', hr, ?_, grown_below h5 (Nat.le_refl _) fun k hk => by cases hk⟩
  unfold IntRow
  have hl : (R.L.take R.c).length = R.c := by rw [List.length_take, ok.L16]; omega
  rw [hl]
  simpa using h4
theorem inter_text {w : World} {g : Nat} {R : Raw} (h : RawAt w g R) (ok : RawOk R) : (convert 22 9 (.slice (some ⟨g, 27, none⟩) R.ni 2)).run Tryd.prog w = .ok (str ([R.i0, R.i1].take R.ni)) w := by
  have hn := ok.ni2
  have hl : ([R.i0, R.i1].take R.ni).length = R.ni := by simp; omega
  have := run_convert_bytes_back (P := Tryd.prog) w 22 9 5 ⟨g, 27, none⟩ 2 ([R.i0, R.i1].take R.ni) Tryd.underlying22 Tryd.underlying5 Tryd.underlying9 (fun j hj => by
    rw [hl] at hj
    rw [add_off]
    refine h.cell ?_
    rw [show 27 + j = 25 + (2 + j) by omega, row_mid ok (2 + j) (by omega), List.getElem_take]
    match j, hj with
    | 0, _ => rfl
    | 1, _ => rfl
    | j + 2, _ => omega)
  rw [hl] at this
  exact this
theorem text_text {w : World} {g : Nat} {R : Raw} (h : RawAt w g R) (ok : RawOk R) : (convert 22 9 (.slice (some ⟨g, 30, none⟩) R.nt 1024)).run Tryd.prog w = .ok (str (R.T.take R.nt)) w := by
  have hn := ok.nt1024
  have hl : (R.T.take R.nt).length = R.nt := by rw [List.length_take, ok.T1024]; omega
  have := run_convert_bytes_back (P := Tryd.prog) w 22 9 5 ⟨g, 30, none⟩ 1024 (R.T.take R.nt) Tryd.underlying22 Tryd.underlying5 Tryd.underlying9 (fun j hj => by
    rw [hl] at hj
    rw [add_off]
    refine h.cell ?_
    rw [row_T ok j (by omega), List.getElem_take, byteVals, List.getElem?_map, List.getElem?_eq_getElem (by rw [ok.T1024]; omega)]
    rfl)
  rw [hl] at this
  exact this
theorem slice_L (g n : Nat) (hn : n ≤ 16) (W : World) : (Instr.sliceAt 56 (.pointer (some ⟨g, 9, none⟩)) none (some (.int .i64 (n : Int))) none).run Tryd.prog W = .ok (.slice (some ⟨g, 9, none⟩) n 16) W := by
  simp [Instr.sliceAt, Instr.sureAddr, Instr.sliceBounds, Instr.sliceBound, asIntOf, run_underlying Tryd.underlying56, go_sem]
  omega
theorem slice_I (g n : Nat) (hn : n ≤ 2) (W : World) : (Instr.sliceAt 59 (.pointer (some ⟨g, 27, none⟩)) none (some (.int .i64 (n : Int))) none).run Tryd.prog W = .ok (.slice (some ⟨g, 27, none⟩) n 2) W := by
  simp [Instr.sliceAt, Instr.sureAddr, Instr.sliceBounds, Instr.sliceBound, asIntOf, run_underlying Tryd.underlying59, go_sem]
  omega
theorem slice_T (g n : Nat) (hn : n ≤ 1024) (W : World) : (Instr.sliceAt 60 (.pointer (some ⟨g, 30, none⟩)) none (some (.int .i64 (n : Int))) none).run Tryd.prog W = .ok (.slice (some ⟨g, 30, none⟩) n 1024) W := by
  simp [Instr.sliceAt, Instr.sureAddr, Instr.sliceBounds, Instr.sliceBound, asIntOf, run_underlying Tryd.underlying60, go_sem]
  omega

def opTy (ops : Array Oper) (i : Nat) : Option TypeId := (ops[i]?).map (·.type)
theorem op_ty {ops : Array Oper} {i : Nat} {o : Oper} {ty : TypeId} (ho : ops[i]? = some o) (h : opTy ops i = some ty) : o.type = ty := by
  unfold opTy at h
  rw [ho] at h
  exact Option.some.inj h
/-- what each operation of the region gives -/
def actV (g kind : Nat) (R : Raw) (pv : Value) : Nat → Value
  | 0 => .int .i64 kind
  | 1 => .pointer (some ⟨g, 7, none⟩)
  | 2 => .pointer (some ⟨g, 7, none⟩)
  | 3 => .pointer (some ⟨g, 8, none⟩)
  | 4 => .int .u8 R.fi.toNat
  | 5 => .pointer (some ⟨g, 7, none⟩)
  | 6 => .pointer (some ⟨g, 7, none⟩)
  | 7 => .pointer (some ⟨g, 7, none⟩)
  | 8 => .int .u8 R.pr.toNat
  | 9 => .pointer (some ⟨g, 7, none⟩)
  | 10 => .pointer (some ⟨g, 7, none⟩)
  | 11 => .pointer (some ⟨g, 9, none⟩)
  | 12 => .pointer (some ⟨g, 9, none⟩)
  | 13 => .pointer (some ⟨g, 7, none⟩)
  | 14 => .pointer (some ⟨g, 7, none⟩)
  | 15 => .pointer (some ⟨g, 9, none⟩)
  | 16 => .pointer (some ⟨g, 25, none⟩)
  | 17 => .int .i64 R.c
  | 18 => .slice (some ⟨g, 9, none⟩) R.c 16
  | 19 => pv
  | 20 => .pointer (some ⟨g, 7, none⟩)
  | 21 => .pointer (some ⟨g, 7, none⟩)
  | 22 => .pointer (some ⟨g, 27, none⟩)
  | 23 => .pointer (some ⟨g, 7, none⟩)
  | 24 => .pointer (some ⟨g, 7, none⟩)
  | 25 => .pointer (some ⟨g, 29, none⟩)
  | 26 => .int .i64 R.ni
  | 27 => .slice (some ⟨g, 27, none⟩) R.ni 2
  | 28 => str ([R.i0, R.i1].take R.ni)
  | 29 => .pointer (some ⟨g, 7, none⟩)
  | 30 => .pointer (some ⟨g, 7, none⟩)
  | 31 => .pointer (some ⟨g, 30, none⟩)
  | 32 => .pointer (some ⟨g, 7, none⟩)
  | 33 => .pointer (some ⟨g, 7, none⟩)
  | 34 => .pointer (some ⟨g, 1054, none⟩)
  | 35 => .int .i64 R.nt
  | 36 => .slice (some ⟨g, 30, none⟩) R.nt 1024
  | 37 => str (R.T.take R.nt)
  | 38 => actVal (actOf (PS.of R) kind) pv
  | 39 => undef
  | _ => undef
def actCs (S : PS) (kind : Nat) (pv : Value) : Array Value := #[.int .i64 kind, .int .i32 0, .int .u8 S.fin.toNat, .int .u8 S.priv.toNat, pv, str S.inter, str S.text]
structure ActJ (g bx kind : Nat) (R : Raw) (pv : Value) (w0 w1 : World) (L : Nat → Bool) (f : Nat → Value) (W : World) : Prop where
  vals : ∀ j, j < 39 → L j = true → f j = actV g kind R pv j
  world : W = if L 39 = true then w1.setRow bx (actCs (PS.of R) kind pv) else if L 19 = true then w1 else w0
section
variable {g bx kind : Nat} {R : Raw} {pv : Value} {w0 w1 : World} {L : Nat → Bool} {f : Nat → Value} {W : World}
theorem ActJ.pure (h : ActJ g bx kind R pv w0 w1 L f W) {i : Nat} (h19 : i ≠ 19) (h39 : i ≠ 39) {v : Value} (hv : v = actV g kind R pv i) : ActJ g bx kind R pv w0 w1 (upd L i true) (upd f i v) W := by
  refine ⟨fun j hj hL => ?_, ?_⟩
  · by_cases e : j = i
    · subst e; rw [upd_same]; exact hv
    · rw [upd_ne _ _ e] at hL ⊢; exact h.vals j hj hL
  · rw [upd_ne _ _ (Ne.symm h39), upd_ne _ _ (Ne.symm h19)]; exact h.world
theorem ActJ.append (h : ActJ g bx kind R pv w0 w1 L f W) (h39 : L 39 = false) : ActJ g bx kind R pv w0 w1 (upd L 19 true) (upd f 19 pv) w1 := by
  refine ⟨fun j hj hL => ?_, ?_⟩
  · by_cases e : j = 19
    · subst e; rw [upd_same]; rfl
    · rw [upd_ne _ _ e] at hL ⊢; exact h.vals j hj hL
  · rw [upd_ne _ _ (by omega : 39 ≠ 19), upd_same, h39]; simp
theorem ActJ.store (h : ActJ g bx kind R pv w0 w1 L f W) (v : Value) : ActJ g bx kind R pv w0 w1 (upd L 39 true) (upd f 39 v) (w1.setRow bx (actCs (PS.of R) kind pv)) := by
  refine ⟨fun j hj hL => ?_, ?_⟩
  · rw [upd_ne _ _ (by omega : j ≠ 39)] at hL ⊢; exact h.vals j hj hL
  · rw [upd_same]; simp
end
theorem act_ok : ownOk (regionOf Tryd.f80 1) 44 = true := by kernel_rfl
theorem act_deps : depsOk (regionOf Tryd.f80 1) = true := by kernel_rfl
theorem act_count : (regionOf Tryd.f80 1).size = 40 := by kernel_rfl

set_option maxRecDepth 1000000 in
set_option maxHeartbeats 4000000 in
theorem act_step (g bx kind : Nat) (R : Raw) (ok : RawOk R) (pA : Option Addr) (pn pc : Nat) (w0 w1 : World) (a0 : Act) (Q : Exit → Act → World → Prop) (q0 : a0.eval (.tmp 0) = .pointer (some ⟨g, 7, none⟩)) (q1 : a0.eval (.tmp 1) = .int .i64 kind) (q4 : a0.eval (.tmp 4) = .pointer (some ⟨bx, 0, none⟩))
    (g0 : RawAt w0 g R) (g1 : RawAt w1 g R) (hrun : (Builtin.append_ #[37, 37] 37 #[.slice none 0 0, .slice (some ⟨g, 9, none⟩) R.c 16]).run Tryd.prog w0 = .ok (.slice pA pn pc) w1) {old : Array Value} (hold : old.size = 7) (hbx : w1.heap[bx]? = some (.cells old 39 (0, 0))) :
    ∀ i o, (regionOf Tryd.f80 1)[i]? = some o → ∀ L f W a, ActJ g bx kind R (.slice pA pn pc) w0 w1 L f W → ActAt (regionOf Tryd.f80 1) a0 a L f → L i = false → (∀ e ∈ o.after, Region.binds .any e = true → L e.on = true) →
      (∀ j o', (regionOf Tryd.f80 1)[j]? = some o' → L j = true → ∀ e ∈ o'.after, Region.binds .any e = true → L e.on = true) →
      wpOp Tryd.prog (regionOf Tryd.f80 1) Q i (fun a' W' => ∃ v, a' = a.put o.dst v ∧ ActJ g bx kind R (.slice pA pn pc) w0 w1 (upd L i true) (upd f i v) W') a W := by
  intro i o ho L f W a hJ hA hL hd hcl
  have hi : i < 40 := by rw [← act_count]; exact (Array.getElem?_eq_some_iff.1 ho).1
  have h39 : L 39 = false := by
    cases hx : L 39 with
    | false => rfl
    | true =>
      exfalso
      obtain ⟨o', ho'⟩ : ∃ o', (regionOf Tryd.f80 1)[39]? = some o' := ⟨_, rfl⟩
      have all : ∀ j, j < 39 → L j = true := fun j hj => by
        have : (List.range 39).all (fun j => opDep (regionOf Tryd.f80 1) 39 j) = true := by kernel_rfl
        exact op_dep ho' (hcl 39 o' ho' hx) ((List.all_eq_true.1 this) j (List.mem_range.2 hj))
      by_cases e : i = 39
      · subst e; rw [hx] at hL; cases hL
      · have := all i (by omega); rw [this] at hL; cases hL
  have hW : W = if L 19 = true then w1 else w0 := by have := hJ.world; rw [h39] at this; simpa using this
  have hG : RawAt W g R := by rw [hW]; split <;> assumption
  have hc := hG.cells ok
  match i, hi with
  | 0, _ =>
    have e1 := op_op ho (show opOp (regionOf Tryd.f80 1) 0 = some (.move (Operand.tmp 1)) by kernel_rfl)
    have eg := op_free ho (show opFree (regionOf Tryd.f80 1) 0 = true by kernel_rfl)
    have p0 := (hA.base (s := 1) (by kernel_rfl)).trans q1
    refine op_value ho eg (v := .int .i64 kind) (w' := W) ?_ ⟨_, rfl, hJ.pure (by omega) (by omega) rfl⟩
    clear hJ hA hd hcl
    revert p0
    generalize a.eval = ρ
    intro p0
    simp [execOp, e1, p0, go_sem]
  | 1, _ =>
    have e1 := op_op ho (show opOp (regionOf Tryd.f80 1) 1 = some (.move (Operand.tmp 0)) by kernel_rfl)
    have eg := op_free ho (show opFree (regionOf Tryd.f80 1) 1 = true by kernel_rfl)
    have p0 := (hA.base (s := 0) (by kernel_rfl)).trans q0
    refine op_value ho eg (v := .pointer (some ⟨g, 7, none⟩)) (w' := W) ?_ ⟨_, rfl, hJ.pure (by omega) (by omega) rfl⟩
    clear hJ hA hd hcl
    revert p0
    generalize a.eval = ρ
    intro p0
    simp [execOp, e1, p0, go_sem]
  | 2, _ =>
    have e1 := op_op ho (show opOp (regionOf Tryd.f80 1) 2 = some (.nilCheck (Operand.tmp 6)) by kernel_rfl)
    have eg := op_free ho (show opFree (regionOf Tryd.f80 1) 2 = true by kernel_rfl)
    have p0 : a.eval (.tmp 6) = .pointer (some ⟨g, 7, none⟩) := (hA.val (j := 1) (by kernel_rfl) (op_dep ho hd (by kernel_rfl))).trans (hJ.vals 1 (by omega) (op_dep ho hd (by kernel_rfl)))
    refine op_value ho eg (v := .pointer (some ⟨g, 7, none⟩)) (w' := W) ?_ ⟨_, rfl, hJ.pure (by omega) (by omega) rfl⟩
    clear hJ hA hd hcl
    revert p0
    generalize a.eval = ρ
    intro p0
    simp [execOp, e1, p0, go_sem]
  | 3, _ =>
    have e1 := op_op ho (show opOp (regionOf Tryd.f80 1) 3 = some (.fieldAddr 62 (Operand.tmp 7) 1) by kernel_rfl)
    have eg := op_free ho (show opFree (regionOf Tryd.f80 1) 3 = true by kernel_rfl)
    have p0 : a.eval (.tmp 7) = .pointer (some ⟨g, 7, none⟩) := (hA.val (j := 2) (by kernel_rfl) (op_dep ho hd (by kernel_rfl))).trans (hJ.vals 2 (by omega) (op_dep ho hd (by kernel_rfl)))
    refine op_value ho eg (v := .pointer (some ⟨g, 8, none⟩)) (w' := W) ?_ ⟨_, rfl, hJ.pure (by omega) (by omega) rfl⟩
    clear hJ hA hd hcl
    revert p0
    generalize a.eval = ρ
    intro p0
    simp [execOp, e1, p0, go_sem]
  | 4, _ =>
    have e1 := op_op ho (show opOp (regionOf Tryd.f80 1) 4 = some (.load 5 (Operand.tmp 8)) by kernel_rfl)
    have eg := op_free ho (show opFree (regionOf Tryd.f80 1) 4 = true by kernel_rfl)
    have p0 : a.eval (.tmp 8) = .pointer (some ⟨g, 8, none⟩) := (hA.val (j := 3) (by kernel_rfl) (op_dep ho hd (by kernel_rfl))).trans (hJ.vals 3 (by omega) (op_dep ho hd (by kernel_rfl)))
    refine op_value ho eg (v := .int .u8 R.fi.toNat) (w' := W) ?_ ⟨_, rfl, hJ.pure (by omega) (by omega) rfl⟩
    have z0 := hc.c8
    clear hJ hA hd hcl
    revert p0
    generalize a.eval = ρ
    intro p0
    simp [execOp, e1, p0, z0, go_sem]
  | 5, _ =>
    have e1 := op_op ho (show opOp (regionOf Tryd.f80 1) 5 = some (.move (Operand.tmp 0)) by kernel_rfl)
    have eg := op_free ho (show opFree (regionOf Tryd.f80 1) 5 = true by kernel_rfl)
    have p0 := (hA.base (s := 0) (by kernel_rfl)).trans q0
    refine op_value ho eg (v := .pointer (some ⟨g, 7, none⟩)) (w' := W) ?_ ⟨_, rfl, hJ.pure (by omega) (by omega) rfl⟩
    clear hJ hA hd hcl
    revert p0
    generalize a.eval = ρ
    intro p0
    simp [execOp, e1, p0, go_sem]
  | 6, _ =>
    have e1 := op_op ho (show opOp (regionOf Tryd.f80 1) 6 = some (.nilCheck (Operand.tmp 10)) by kernel_rfl)
    have eg := op_free ho (show opFree (regionOf Tryd.f80 1) 6 = true by kernel_rfl)
    have p0 : a.eval (.tmp 10) = .pointer (some ⟨g, 7, none⟩) := (hA.val (j := 5) (by kernel_rfl) (op_dep ho hd (by kernel_rfl))).trans (hJ.vals 5 (by omega) (op_dep ho hd (by kernel_rfl)))
    refine op_value ho eg (v := .pointer (some ⟨g, 7, none⟩)) (w' := W) ?_ ⟨_, rfl, hJ.pure (by omega) (by omega) rfl⟩
    clear hJ hA hd hcl
    revert p0
    generalize a.eval = ρ
    intro p0
    simp [execOp, e1, p0, go_sem]
  | 7, _ =>
    have e1 := op_op ho (show opOp (regionOf Tryd.f80 1) 7 = some (.fieldAddr 62 (Operand.tmp 11) 0) by kernel_rfl)
    have eg := op_free ho (show opFree (regionOf Tryd.f80 1) 7 = true by kernel_rfl)
    have p0 : a.eval (.tmp 11) = .pointer (some ⟨g, 7, none⟩) := (hA.val (j := 6) (by kernel_rfl) (op_dep ho hd (by kernel_rfl))).trans (hJ.vals 6 (by omega) (op_dep ho hd (by kernel_rfl)))
    refine op_value ho eg (v := .pointer (some ⟨g, 7, none⟩)) (w' := W) ?_ ⟨_, rfl, hJ.pure (by omega) (by omega) rfl⟩
    clear hJ hA hd hcl
    revert p0
    generalize a.eval = ρ
    intro p0
    simp [execOp, e1, p0, go_sem]
  | 8, _ =>
    have e1 := op_op ho (show opOp (regionOf Tryd.f80 1) 8 = some (.load 5 (Operand.tmp 12)) by kernel_rfl)
    have eg := op_free ho (show opFree (regionOf Tryd.f80 1) 8 = true by kernel_rfl)
    have p0 : a.eval (.tmp 12) = .pointer (some ⟨g, 7, none⟩) := (hA.val (j := 7) (by kernel_rfl) (op_dep ho hd (by kernel_rfl))).trans (hJ.vals 7 (by omega) (op_dep ho hd (by kernel_rfl)))
    refine op_value ho eg (v := .int .u8 R.pr.toNat) (w' := W) ?_ ⟨_, rfl, hJ.pure (by omega) (by omega) rfl⟩
    have z0 := hc.c7
    clear hJ hA hd hcl
    revert p0
    generalize a.eval = ρ
    intro p0
    simp [execOp, e1, p0, z0, go_sem]
  | 9, _ =>
    have e1 := op_op ho (show opOp (regionOf Tryd.f80 1) 9 = some (.move (Operand.tmp 0)) by kernel_rfl)
    have eg := op_free ho (show opFree (regionOf Tryd.f80 1) 9 = true by kernel_rfl)
    have p0 := (hA.base (s := 0) (by kernel_rfl)).trans q0
    refine op_value ho eg (v := .pointer (some ⟨g, 7, none⟩)) (w' := W) ?_ ⟨_, rfl, hJ.pure (by omega) (by omega) rfl⟩
    clear hJ hA hd hcl
    revert p0
    generalize a.eval = ρ
    intro p0
    simp [execOp, e1, p0, go_sem]
  | 10, _ =>
    have e1 := op_op ho (show opOp (regionOf Tryd.f80 1) 10 = some (.nilCheck (Operand.tmp 14)) by kernel_rfl)
    have eg := op_free ho (show opFree (regionOf Tryd.f80 1) 10 = true by kernel_rfl)
    have p0 : a.eval (.tmp 14) = .pointer (some ⟨g, 7, none⟩) := (hA.val (j := 9) (by kernel_rfl) (op_dep ho hd (by kernel_rfl))).trans (hJ.vals 9 (by omega) (op_dep ho hd (by kernel_rfl)))
    refine op_value ho eg (v := .pointer (some ⟨g, 7, none⟩)) (w' := W) ?_ ⟨_, rfl, hJ.pure (by omega) (by omega) rfl⟩
    clear hJ hA hd hcl
    revert p0
    generalize a.eval = ρ
    intro p0
    simp [execOp, e1, p0, go_sem]
  | 11, _ =>
    have e1 := op_op ho (show opOp (regionOf Tryd.f80 1) 11 = some (.fieldAddr 62 (Operand.tmp 15) 2) by kernel_rfl)
    have eg := op_free ho (show opFree (regionOf Tryd.f80 1) 11 = true by kernel_rfl)
    have p0 : a.eval (.tmp 15) = .pointer (some ⟨g, 7, none⟩) := (hA.val (j := 10) (by kernel_rfl) (op_dep ho hd (by kernel_rfl))).trans (hJ.vals 10 (by omega) (op_dep ho hd (by kernel_rfl)))
    refine op_value ho eg (v := .pointer (some ⟨g, 9, none⟩)) (w' := W) ?_ ⟨_, rfl, hJ.pure (by omega) (by omega) rfl⟩
    clear hJ hA hd hcl
    revert p0
    generalize a.eval = ρ
    intro p0
    simp [execOp, e1, p0, go_sem]
  | 12, _ =>
    have e1 := op_op ho (show opOp (regionOf Tryd.f80 1) 12 = some (.fieldAddr 58 (Operand.tmp 16) 0) by kernel_rfl)
    have eg := op_free ho (show opFree (regionOf Tryd.f80 1) 12 = true by kernel_rfl)
    have p0 : a.eval (.tmp 16) = .pointer (some ⟨g, 9, none⟩) := (hA.val (j := 11) (by kernel_rfl) (op_dep ho hd (by kernel_rfl))).trans (hJ.vals 11 (by omega) (op_dep ho hd (by kernel_rfl)))
    refine op_value ho eg (v := .pointer (some ⟨g, 9, none⟩)) (w' := W) ?_ ⟨_, rfl, hJ.pure (by omega) (by omega) rfl⟩
    clear hJ hA hd hcl
    revert p0
    generalize a.eval = ρ
    intro p0
    simp [execOp, e1, p0, go_sem]
  | 13, _ =>
    have e1 := op_op ho (show opOp (regionOf Tryd.f80 1) 13 = some (.move (Operand.tmp 0)) by kernel_rfl)
    have eg := op_free ho (show opFree (regionOf Tryd.f80 1) 13 = true by kernel_rfl)
    have p0 := (hA.base (s := 0) (by kernel_rfl)).trans q0
    refine op_value ho eg (v := .pointer (some ⟨g, 7, none⟩)) (w' := W) ?_ ⟨_, rfl, hJ.pure (by omega) (by omega) rfl⟩
    clear hJ hA hd hcl
    revert p0
    generalize a.eval = ρ
    intro p0
    simp [execOp, e1, p0, go_sem]
  | 14, _ =>
    have e1 := op_op ho (show opOp (regionOf Tryd.f80 1) 14 = some (.nilCheck (Operand.tmp 18)) by kernel_rfl)
    have eg := op_free ho (show opFree (regionOf Tryd.f80 1) 14 = true by kernel_rfl)
    have p0 : a.eval (.tmp 18) = .pointer (some ⟨g, 7, none⟩) := (hA.val (j := 13) (by kernel_rfl) (op_dep ho hd (by kernel_rfl))).trans (hJ.vals 13 (by omega) (op_dep ho hd (by kernel_rfl)))
    refine op_value ho eg (v := .pointer (some ⟨g, 7, none⟩)) (w' := W) ?_ ⟨_, rfl, hJ.pure (by omega) (by omega) rfl⟩
    clear hJ hA hd hcl
    revert p0
    generalize a.eval = ρ
    intro p0
    simp [execOp, e1, p0, go_sem]
  | 15, _ =>
    have e1 := op_op ho (show opOp (regionOf Tryd.f80 1) 15 = some (.fieldAddr 62 (Operand.tmp 19) 2) by kernel_rfl)
    have eg := op_free ho (show opFree (regionOf Tryd.f80 1) 15 = true by kernel_rfl)
    have p0 : a.eval (.tmp 19) = .pointer (some ⟨g, 7, none⟩) := (hA.val (j := 14) (by kernel_rfl) (op_dep ho hd (by kernel_rfl))).trans (hJ.vals 14 (by omega) (op_dep ho hd (by kernel_rfl)))
    refine op_value ho eg (v := .pointer (some ⟨g, 9, none⟩)) (w' := W) ?_ ⟨_, rfl, hJ.pure (by omega) (by omega) rfl⟩
    clear hJ hA hd hcl
    revert p0
    generalize a.eval = ρ
    intro p0
    simp [execOp, e1, p0, go_sem]
  | 16, _ =>
    have e1 := op_op ho (show opOp (regionOf Tryd.f80 1) 16 = some (.fieldAddr 58 (Operand.tmp 20) 1) by kernel_rfl)
    have eg := op_free ho (show opFree (regionOf Tryd.f80 1) 16 = true by kernel_rfl)
    have p0 : a.eval (.tmp 20) = .pointer (some ⟨g, 9, none⟩) := (hA.val (j := 15) (by kernel_rfl) (op_dep ho hd (by kernel_rfl))).trans (hJ.vals 15 (by omega) (op_dep ho hd (by kernel_rfl)))
    refine op_value ho eg (v := .pointer (some ⟨g, 25, none⟩)) (w' := W) ?_ ⟨_, rfl, hJ.pure (by omega) (by omega) rfl⟩
    clear hJ hA hd hcl
    revert p0
    generalize a.eval = ρ
    intro p0
    simp [execOp, e1, p0, go_sem]
  | 17, _ =>
    have e1 := op_op ho (show opOp (regionOf Tryd.f80 1) 17 = some (.load 3 (Operand.tmp 21)) by kernel_rfl)
    have eg := op_free ho (show opFree (regionOf Tryd.f80 1) 17 = true by kernel_rfl)
    have p0 : a.eval (.tmp 21) = .pointer (some ⟨g, 25, none⟩) := (hA.val (j := 16) (by kernel_rfl) (op_dep ho hd (by kernel_rfl))).trans (hJ.vals 16 (by omega) (op_dep ho hd (by kernel_rfl)))
    refine op_value ho eg (v := .int .i64 R.c) (w' := W) ?_ ⟨_, rfl, hJ.pure (by omega) (by omega) rfl⟩
    have z0 := hc.c25
    clear hJ hA hd hcl
    revert p0
    generalize a.eval = ρ
    intro p0
    simp [execOp, e1, p0, z0, go_sem]
  | 18, _ =>
    have e1 := op_op ho (show opOp (regionOf Tryd.f80 1) 18 = some (.slice 56 (Operand.tmp 17) none (some (Operand.tmp 22)) none) by kernel_rfl)
    have eg := op_free ho (show opFree (regionOf Tryd.f80 1) 18 = true by kernel_rfl)
    have p0 : a.eval (.tmp 17) = .pointer (some ⟨g, 9, none⟩) := (hA.val (j := 12) (by kernel_rfl) (op_dep ho hd (by kernel_rfl))).trans (hJ.vals 12 (by omega) (op_dep ho hd (by kernel_rfl)))
    have p1 : a.eval (.tmp 22) = .int .i64 R.c := (hA.val (j := 17) (by kernel_rfl) (op_dep ho hd (by kernel_rfl))).trans (hJ.vals 17 (by omega) (op_dep ho hd (by kernel_rfl)))
    refine op_value ho eg (v := .slice (some ⟨g, 9, none⟩) R.c 16) (w' := W) ?_ ⟨_, rfl, hJ.pure (by omega) (by omega) rfl⟩
    have z0 := slice_L g R.c ok.c16
    clear hJ hA hd hcl
    revert p0 p1
    generalize a.eval = ρ
    intro p0 p1
    simp [execOp, e1, p0, p1, z0, go_sem]
  | 19, _ =>
    have e1 := op_op ho (show opOp (regionOf Tryd.f80 1) 19 = some (.call { callee := .builtin .append, args := #[Operand.const (Value.slice none 0 0), (Operand.tmp 23)], argTypes := #[37, 37] }) by kernel_rfl)
    have eg := op_free ho (show opFree (regionOf Tryd.f80 1) 19 = true by kernel_rfl)
    have p0 : a.eval (.tmp 23) = .slice (some ⟨g, 9, none⟩) R.c 16 := (hA.val (j := 18) (by kernel_rfl) (op_dep ho hd (by kernel_rfl))).trans (hJ.vals 18 (by omega) (op_dep ho hd (by kernel_rfl)))
    have hw0 : W = w0 := by rw [hW, hL]; simp
    have ety := op_ty ho (show opTy (regionOf Tryd.f80 1) 19 = some 37 by kernel_rfl)
    subst hw0
    refine op_value ho eg (v := .slice pA pn pc) (w' := w1) ?_ ⟨_, rfl, hJ.append h39⟩
    unfold execOp
    have pc : a.eval (Operand.const (Value.slice none 0 0)) = .slice none 0 0 := rfl
    simp only [e1, resolve, invoke, builtin, Sem.run_bind, Sem.run_pure, Result.andThen_ok, List.map_toArray, List.map_cons, List.map_nil, pc, p0, ety, hrun]
  | 20, _ =>
    have e1 := op_op ho (show opOp (regionOf Tryd.f80 1) 20 = some (.move (Operand.tmp 0)) by kernel_rfl)
    have eg := op_free ho (show opFree (regionOf Tryd.f80 1) 20 = true by kernel_rfl)
    have p0 := (hA.base (s := 0) (by kernel_rfl)).trans q0
    refine op_value ho eg (v := .pointer (some ⟨g, 7, none⟩)) (w' := W) ?_ ⟨_, rfl, hJ.pure (by omega) (by omega) rfl⟩
    clear hJ hA hd hcl
    revert p0
    generalize a.eval = ρ
    intro p0
    simp [execOp, e1, p0, go_sem]
  | 21, _ =>
    have e1 := op_op ho (show opOp (regionOf Tryd.f80 1) 21 = some (.nilCheck (Operand.tmp 25)) by kernel_rfl)
    have eg := op_free ho (show opFree (regionOf Tryd.f80 1) 21 = true by kernel_rfl)
    have p0 : a.eval (.tmp 25) = .pointer (some ⟨g, 7, none⟩) := (hA.val (j := 20) (by kernel_rfl) (op_dep ho hd (by kernel_rfl))).trans (hJ.vals 20 (by omega) (op_dep ho hd (by kernel_rfl)))
    refine op_value ho eg (v := .pointer (some ⟨g, 7, none⟩)) (w' := W) ?_ ⟨_, rfl, hJ.pure (by omega) (by omega) rfl⟩
    clear hJ hA hd hcl
    revert p0
    generalize a.eval = ρ
    intro p0
    simp [execOp, e1, p0, go_sem]
  | 22, _ =>
    have e1 := op_op ho (show opOp (regionOf Tryd.f80 1) 22 = some (.fieldAddr 62 (Operand.tmp 26) 3) by kernel_rfl)
    have eg := op_free ho (show opFree (regionOf Tryd.f80 1) 22 = true by kernel_rfl)
    have p0 : a.eval (.tmp 26) = .pointer (some ⟨g, 7, none⟩) := (hA.val (j := 21) (by kernel_rfl) (op_dep ho hd (by kernel_rfl))).trans (hJ.vals 21 (by omega) (op_dep ho hd (by kernel_rfl)))
    refine op_value ho eg (v := .pointer (some ⟨g, 27, none⟩)) (w' := W) ?_ ⟨_, rfl, hJ.pure (by omega) (by omega) rfl⟩
    clear hJ hA hd hcl
    revert p0
    generalize a.eval = ρ
    intro p0
    simp [execOp, e1, p0, go_sem]
  | 23, _ =>
    have e1 := op_op ho (show opOp (regionOf Tryd.f80 1) 23 = some (.move (Operand.tmp 0)) by kernel_rfl)
    have eg := op_free ho (show opFree (regionOf Tryd.f80 1) 23 = true by kernel_rfl)
    have p0 := (hA.base (s := 0) (by kernel_rfl)).trans q0
    refine op_value ho eg (v := .pointer (some ⟨g, 7, none⟩)) (w' := W) ?_ ⟨_, rfl, hJ.pure (by omega) (by omega) rfl⟩
    clear hJ hA hd hcl
    revert p0
    generalize a.eval = ρ
    intro p0
    simp [execOp, e1, p0, go_sem]
  | 24, _ =>
    have e1 := op_op ho (show opOp (regionOf Tryd.f80 1) 24 = some (.nilCheck (Operand.tmp 28)) by kernel_rfl)
    have eg := op_free ho (show opFree (regionOf Tryd.f80 1) 24 = true by kernel_rfl)
    have p0 : a.eval (.tmp 28) = .pointer (some ⟨g, 7, none⟩) := (hA.val (j := 23) (by kernel_rfl) (op_dep ho hd (by kernel_rfl))).trans (hJ.vals 23 (by omega) (op_dep ho hd (by kernel_rfl)))
    refine op_value ho eg (v := .pointer (some ⟨g, 7, none⟩)) (w' := W) ?_ ⟨_, rfl, hJ.pure (by omega) (by omega) rfl⟩
    clear hJ hA hd hcl
    revert p0
    generalize a.eval = ρ
    intro p0
    simp [execOp, e1, p0, go_sem]
  | 25, _ =>
    have e1 := op_op ho (show opOp (regionOf Tryd.f80 1) 25 = some (.fieldAddr 62 (Operand.tmp 29) 4) by kernel_rfl)
    have eg := op_free ho (show opFree (regionOf Tryd.f80 1) 25 = true by kernel_rfl)
    have p0 : a.eval (.tmp 29) = .pointer (some ⟨g, 7, none⟩) := (hA.val (j := 24) (by kernel_rfl) (op_dep ho hd (by kernel_rfl))).trans (hJ.vals 24 (by omega) (op_dep ho hd (by kernel_rfl)))
    refine op_value ho eg (v := .pointer (some ⟨g, 29, none⟩)) (w' := W) ?_ ⟨_, rfl, hJ.pure (by omega) (by omega) rfl⟩
    clear hJ hA hd hcl
    revert p0
    generalize a.eval = ρ
    intro p0
    simp [execOp, e1, p0, go_sem]
  | 26, _ =>
    have e1 := op_op ho (show opOp (regionOf Tryd.f80 1) 26 = some (.load 3 (Operand.tmp 30)) by kernel_rfl)
    have eg := op_free ho (show opFree (regionOf Tryd.f80 1) 26 = true by kernel_rfl)
    have p0 : a.eval (.tmp 30) = .pointer (some ⟨g, 29, none⟩) := (hA.val (j := 25) (by kernel_rfl) (op_dep ho hd (by kernel_rfl))).trans (hJ.vals 25 (by omega) (op_dep ho hd (by kernel_rfl)))
    refine op_value ho eg (v := .int .i64 R.ni) (w' := W) ?_ ⟨_, rfl, hJ.pure (by omega) (by omega) rfl⟩
    have z0 := hc.c29
    clear hJ hA hd hcl
    revert p0
    generalize a.eval = ρ
    intro p0
    simp [execOp, e1, p0, z0, go_sem]
  | 27, _ =>
    have e1 := op_op ho (show opOp (regionOf Tryd.f80 1) 27 = some (.slice 59 (Operand.tmp 27) none (some (Operand.tmp 31)) none) by kernel_rfl)
    have eg := op_free ho (show opFree (regionOf Tryd.f80 1) 27 = true by kernel_rfl)
    have p0 : a.eval (.tmp 27) = .pointer (some ⟨g, 27, none⟩) := (hA.val (j := 22) (by kernel_rfl) (op_dep ho hd (by kernel_rfl))).trans (hJ.vals 22 (by omega) (op_dep ho hd (by kernel_rfl)))
    have p1 : a.eval (.tmp 31) = .int .i64 R.ni := (hA.val (j := 26) (by kernel_rfl) (op_dep ho hd (by kernel_rfl))).trans (hJ.vals 26 (by omega) (op_dep ho hd (by kernel_rfl)))
    refine op_value ho eg (v := .slice (some ⟨g, 27, none⟩) R.ni 2) (w' := W) ?_ ⟨_, rfl, hJ.pure (by omega) (by omega) rfl⟩
    have z0 := slice_I g R.ni ok.ni2
    clear hJ hA hd hcl
    revert p0 p1
    generalize a.eval = ρ
    intro p0 p1
    simp [execOp, e1, p0, p1, z0, go_sem]
  | 28, _ =>
    have e1 := op_op ho (show opOp (regionOf Tryd.f80 1) 28 = some (.convert 22 9 (Operand.tmp 32)) by kernel_rfl)
    have eg := op_free ho (show opFree (regionOf Tryd.f80 1) 28 = true by kernel_rfl)
    have p0 : a.eval (.tmp 32) = .slice (some ⟨g, 27, none⟩) R.ni 2 := (hA.val (j := 27) (by kernel_rfl) (op_dep ho hd (by kernel_rfl))).trans (hJ.vals 27 (by omega) (op_dep ho hd (by kernel_rfl)))
    refine op_value ho eg (v := str ([R.i0, R.i1].take R.ni)) (w' := W) ?_ ⟨_, rfl, hJ.pure (by omega) (by omega) rfl⟩
    have z0 := inter_text hG ok
    clear hJ hA hd hcl
    revert p0
    generalize a.eval = ρ
    intro p0
    simp [execOp, e1, p0, z0, go_sem]
  | 29, _ =>
    have e1 := op_op ho (show opOp (regionOf Tryd.f80 1) 29 = some (.move (Operand.tmp 0)) by kernel_rfl)
    have eg := op_free ho (show opFree (regionOf Tryd.f80 1) 29 = true by kernel_rfl)
    have p0 := (hA.base (s := 0) (by kernel_rfl)).trans q0
    refine op_value ho eg (v := .pointer (some ⟨g, 7, none⟩)) (w' := W) ?_ ⟨_, rfl, hJ.pure (by omega) (by omega) rfl⟩
    clear hJ hA hd hcl
    revert p0
    generalize a.eval = ρ
    intro p0
    simp [execOp, e1, p0, go_sem]
  | 30, _ =>
    have e1 := op_op ho (show opOp (regionOf Tryd.f80 1) 30 = some (.nilCheck (Operand.tmp 34)) by kernel_rfl)
    have eg := op_free ho (show opFree (regionOf Tryd.f80 1) 30 = true by kernel_rfl)
    have p0 : a.eval (.tmp 34) = .pointer (some ⟨g, 7, none⟩) := (hA.val (j := 29) (by kernel_rfl) (op_dep ho hd (by kernel_rfl))).trans (hJ.vals 29 (by omega) (op_dep ho hd (by kernel_rfl)))
    refine op_value ho eg (v := .pointer (some ⟨g, 7, none⟩)) (w' := W) ?_ ⟨_, rfl, hJ.pure (by omega) (by omega) rfl⟩
    clear hJ hA hd hcl
    revert p0
    generalize a.eval = ρ
    intro p0
    simp [execOp, e1, p0, go_sem]
  | 31, _ =>
    have e1 := op_op ho (show opOp (regionOf Tryd.f80 1) 31 = some (.fieldAddr 62 (Operand.tmp 35) 5) by kernel_rfl)
    have eg := op_free ho (show opFree (regionOf Tryd.f80 1) 31 = true by kernel_rfl)
    have p0 : a.eval (.tmp 35) = .pointer (some ⟨g, 7, none⟩) := (hA.val (j := 30) (by kernel_rfl) (op_dep ho hd (by kernel_rfl))).trans (hJ.vals 30 (by omega) (op_dep ho hd (by kernel_rfl)))
    refine op_value ho eg (v := .pointer (some ⟨g, 30, none⟩)) (w' := W) ?_ ⟨_, rfl, hJ.pure (by omega) (by omega) rfl⟩
    clear hJ hA hd hcl
    revert p0
    generalize a.eval = ρ
    intro p0
    simp [execOp, e1, p0, go_sem]
  | 32, _ =>
    have e1 := op_op ho (show opOp (regionOf Tryd.f80 1) 32 = some (.move (Operand.tmp 0)) by kernel_rfl)
    have eg := op_free ho (show opFree (regionOf Tryd.f80 1) 32 = true by kernel_rfl)
    have p0 := (hA.base (s := 0) (by kernel_rfl)).trans q0
    refine op_value ho eg (v := .pointer (some ⟨g, 7, none⟩)) (w' := W) ?_ ⟨_, rfl, hJ.pure (by omega) (by omega) rfl⟩
    clear hJ hA hd hcl
    revert p0
    generalize a.eval = ρ
    intro p0
    simp [execOp, e1, p0, go_sem]
  | 33, _ =>
    have e1 := op_op ho (show opOp (regionOf Tryd.f80 1) 33 = some (.nilCheck (Operand.tmp 37)) by kernel_rfl)
    have eg := op_free ho (show opFree (regionOf Tryd.f80 1) 33 = true by kernel_rfl)
    have p0 : a.eval (.tmp 37) = .pointer (some ⟨g, 7, none⟩) := (hA.val (j := 32) (by kernel_rfl) (op_dep ho hd (by kernel_rfl))).trans (hJ.vals 32 (by omega) (op_dep ho hd (by kernel_rfl)))
    refine op_value ho eg (v := .pointer (some ⟨g, 7, none⟩)) (w' := W) ?_ ⟨_, rfl, hJ.pure (by omega) (by omega) rfl⟩
    clear hJ hA hd hcl
    revert p0
    generalize a.eval = ρ
    intro p0
    simp [execOp, e1, p0, go_sem]
  | 34, _ =>
    have e1 := op_op ho (show opOp (regionOf Tryd.f80 1) 34 = some (.fieldAddr 62 (Operand.tmp 38) 6) by kernel_rfl)
    have eg := op_free ho (show opFree (regionOf Tryd.f80 1) 34 = true by kernel_rfl)
    have p0 : a.eval (.tmp 38) = .pointer (some ⟨g, 7, none⟩) := (hA.val (j := 33) (by kernel_rfl) (op_dep ho hd (by kernel_rfl))).trans (hJ.vals 33 (by omega) (op_dep ho hd (by kernel_rfl)))
    refine op_value ho eg (v := .pointer (some ⟨g, 1054, none⟩)) (w' := W) ?_ ⟨_, rfl, hJ.pure (by omega) (by omega) rfl⟩
    clear hJ hA hd hcl
    revert p0
    generalize a.eval = ρ
    intro p0
    simp [execOp, e1, p0, go_sem]
  | 35, _ =>
    have e1 := op_op ho (show opOp (regionOf Tryd.f80 1) 35 = some (.load 3 (Operand.tmp 39)) by kernel_rfl)
    have eg := op_free ho (show opFree (regionOf Tryd.f80 1) 35 = true by kernel_rfl)
    have p0 : a.eval (.tmp 39) = .pointer (some ⟨g, 1054, none⟩) := (hA.val (j := 34) (by kernel_rfl) (op_dep ho hd (by kernel_rfl))).trans (hJ.vals 34 (by omega) (op_dep ho hd (by kernel_rfl)))
    refine op_value ho eg (v := .int .i64 R.nt) (w' := W) ?_ ⟨_, rfl, hJ.pure (by omega) (by omega) rfl⟩
    have z0 := hc.c1054
    clear hJ hA hd hcl
    revert p0
    generalize a.eval = ρ
    intro p0
    simp [execOp, e1, p0, z0, go_sem]
  | 36, _ =>
    have e1 := op_op ho (show opOp (regionOf Tryd.f80 1) 36 = some (.slice 60 (Operand.tmp 36) none (some (Operand.tmp 40)) none) by kernel_rfl)
    have eg := op_free ho (show opFree (regionOf Tryd.f80 1) 36 = true by kernel_rfl)
    have p0 : a.eval (.tmp 36) = .pointer (some ⟨g, 30, none⟩) := (hA.val (j := 31) (by kernel_rfl) (op_dep ho hd (by kernel_rfl))).trans (hJ.vals 31 (by omega) (op_dep ho hd (by kernel_rfl)))
    have p1 : a.eval (.tmp 40) = .int .i64 R.nt := (hA.val (j := 35) (by kernel_rfl) (op_dep ho hd (by kernel_rfl))).trans (hJ.vals 35 (by omega) (op_dep ho hd (by kernel_rfl)))
    refine op_value ho eg (v := .slice (some ⟨g, 30, none⟩) R.nt 1024) (w' := W) ?_ ⟨_, rfl, hJ.pure (by omega) (by omega) rfl⟩
    have z0 := slice_T g R.nt ok.nt1024
    clear hJ hA hd hcl
    revert p0 p1
    generalize a.eval = ρ
    intro p0 p1
    simp [execOp, e1, p0, p1, z0, go_sem]
  | 37, _ =>
    have e1 := op_op ho (show opOp (regionOf Tryd.f80 1) 37 = some (.convert 22 9 (Operand.tmp 41)) by kernel_rfl)
    have eg := op_free ho (show opFree (regionOf Tryd.f80 1) 37 = true by kernel_rfl)
    have p0 : a.eval (.tmp 41) = .slice (some ⟨g, 30, none⟩) R.nt 1024 := (hA.val (j := 36) (by kernel_rfl) (op_dep ho hd (by kernel_rfl))).trans (hJ.vals 36 (by omega) (op_dep ho hd (by kernel_rfl)))
    refine op_value ho eg (v := str (R.T.take R.nt)) (w' := W) ?_ ⟨_, rfl, hJ.pure (by omega) (by omega) rfl⟩
    have z0 := text_text hG ok
    clear hJ hA hd hcl
    revert p0
    generalize a.eval = ρ
    intro p0
    simp [execOp, e1, p0, z0, go_sem]
  | 38, _ =>
    have e1 := op_op ho (show opOp (regionOf Tryd.f80 1) 38 = some (.build 39 #[(0, Operand.tmp 5), (2, Operand.tmp 9), (3, Operand.tmp 13), (4, Operand.tmp 24), (5, Operand.tmp 33), (6, Operand.tmp 42)]) by kernel_rfl)
    have eg := op_free ho (show opFree (regionOf Tryd.f80 1) 38 = true by kernel_rfl)
    have p0 : a.eval (.tmp 5) = .int .i64 kind := (hA.val (j := 0) (by kernel_rfl) (op_dep ho hd (by kernel_rfl))).trans (hJ.vals 0 (by omega) (op_dep ho hd (by kernel_rfl)))
    have p1 : a.eval (.tmp 9) = .int .u8 R.fi.toNat := (hA.val (j := 4) (by kernel_rfl) (op_dep ho hd (by kernel_rfl))).trans (hJ.vals 4 (by omega) (op_dep ho hd (by kernel_rfl)))
    have p2 : a.eval (.tmp 13) = .int .u8 R.pr.toNat := (hA.val (j := 8) (by kernel_rfl) (op_dep ho hd (by kernel_rfl))).trans (hJ.vals 8 (by omega) (op_dep ho hd (by kernel_rfl)))
    have p3 : a.eval (.tmp 24) = .slice pA pn pc := (hA.val (j := 19) (by kernel_rfl) (op_dep ho hd (by kernel_rfl))).trans (hJ.vals 19 (by omega) (op_dep ho hd (by kernel_rfl)))
    have p4 : a.eval (.tmp 33) = str ([R.i0, R.i1].take R.ni) := (hA.val (j := 28) (by kernel_rfl) (op_dep ho hd (by kernel_rfl))).trans (hJ.vals 28 (by omega) (op_dep ho hd (by kernel_rfl)))
    have p5 : a.eval (.tmp 42) = str (R.T.take R.nt) := (hA.val (j := 37) (by kernel_rfl) (op_dep ho hd (by kernel_rfl))).trans (hJ.vals 37 (by omega) (op_dep ho hd (by kernel_rfl)))
    refine op_value ho eg (v := actVal (actOf (PS.of R) kind) (.slice pA pn pc)) (w' := W) ?_ ⟨_, rfl, hJ.pure (by omega) (by omega) rfl⟩
    clear hJ hA hd hcl
    revert p0 p1 p2 p3 p4 p5
    generalize a.eval = ρ
    intro p0 p1 p2 p3 p4 p5
    simp [execOp, e1, p0, p1, p2, p3, p4, p5, go_sem]
    exact ⟨rfl, rfl, rfl, rfl, rfl, rfl⟩
  | 39, _ =>
    have e1 := op_op ho (show opOp (regionOf Tryd.f80 1) 39 = some (.store 39 (Operand.tmp 4) (Operand.tmp 43)) by kernel_rfl)
    have eg := op_free ho (show opFree (regionOf Tryd.f80 1) 39 = true by kernel_rfl)
    have p0 := (hA.base (s := 4) (by kernel_rfl)).trans q4
    have p1 : a.eval (.tmp 43) = actVal (actOf (PS.of R) kind) (.slice pA pn pc) := (hA.val (j := 38) (by kernel_rfl) (op_dep ho hd (by kernel_rfl))).trans (hJ.vals 38 (by omega) (op_dep ho hd (by kernel_rfl)))
    have h19 : L 19 = true := op_dep ho hd (by kernel_rfl)
    have hw1 : W = w1 := by rw [hW, h19]; simp
    subst hw1
    have hs : (storeVar 39 ⟨bx, 0, none⟩ (.agg (actCs (PS.of R) kind (.slice pA pn pc)))).run Tryd.prog W = .ok () (W.setRow bx (actCs (PS.of R) kind (.slice pA pn pc))) := run_storeVar_row (P := Tryd.prog) W bx _ _ old _ hbx (by exact act_size) (by rw [hold]; rfl) (by rw [← Array.all_toList]; simp [actCs, Value.oneCell'])
    refine op_skip ho eg (w' := W.setRow bx (actCs (PS.of R) kind (.slice pA pn pc))) ?_ ⟨_, rfl, hJ.store _⟩
    have p1' : a.eval (.tmp 43) = .agg (actCs (PS.of R) kind (.slice pA pn pc)) := p1
    unfold execOp
    simp only [e1, p0, p1', Instr.storeAt, Instr.sureAddr, Sem.run_bind, Sem.run_pure, Result.andThen_ok, hs]

set_option maxRecDepth 1000000 in
set_option maxHeartbeats 4000000 in
theorem action_any (w : World) (g : Nat) (S : PS) (kind : Nat) (h : ParAt w g S) : Calls Tryd.prog 80 #[.pointer (some ⟨g, 7, none⟩), .int .i64 kind] w (StepPost w g S (actOf S kind)) := by
  have HB := Lib.hid (BoxW.start h #[.int .i64 0, .int .i32 0, .int .u8 0, .int .u8 0, .slice none 0 0, .string ⟨#[]⟩, .string ⟨#[]⟩] rfl)
  have hx0 := heap_alloc_new w (.cells #[.int .i64 0, .int .i32 0, .int .u8 0, .int .u8 0, .slice none 0 0, .string ⟨#[]⟩, .string ⟨#[]⟩] 39)
  have hsz : (w.alloc (.cells #[.int .i64 0, .int .i32 0, .int .u8 0, .int .u8 0, .slice none 0 0, .string ⟨#[]⟩, .string ⟨#[]⟩] 39)).heap.size = w.heap.size + 1 := by simp
  clear h
  go_enter Tryd.func80, Tryd.ntmps80
  go_upto_region 1 with (fail)
  generalize w.alloc (.cells #[.int .i64 0, .int .i32 0, .int .u8 0, .int .u8 0, .slice none 0 0, .string ⟨#[]⟩, .string ⟨#[]⟩] 39) = W at *
  obtain ⟨R, ok, hR, rfl⟩ := HB.out.par
  obtain ⟨pv, w1, run1, hI, hb1⟩ := params_run (w := W.drew) hR ok 37
  have hb2 : Below W.heap.size W w1 := ⟨hb1.os, hb1.tape, hb1.output, hb1.size, hb1.block⟩
  have HB1 := Lib.hid (HB.out.below hb2)
  have hR1 := hR.kept hb2
  have HI := Lib.hid (own_less hI (B' := w.heap.size) (by show w.heap.size ≤ W.heap.size; omega))
  obtain ⟨A, cp, rfl, _⟩ := own_form hI
  have hx1 := (hb2.block _ (by omega)).trans hx0
  change Code.wp Tryd.prog (.region 1 (regionOf Tryd.f80 1) true) _ _ _
  refine wp_region_facts (by kernel_rfl) (ActJ g w.heap.size kind R (.slice A _ cp) W.drew w1) act_ok act_deps ⟨(fun j _ h => by cases h), rfl⟩ (act_step g w.heap.size kind R ok A _ cp W.drew w1 _ _ rfl rfl rfl hR hR1 run1 rfl hx1) (fun f W' a hJ hA => ?_)
  have hW : W' = w1.setRow w.heap.size (actCs (PS.of R) kind (.slice A (R.L.take R.c).length cp)) := by
    have := hJ.world
    simp only [act_count] at this
    exact this
  subst hW
  have hfin := HB1.out.fin (a := actOf (PS.of R) kind) HI.out (actCs (PS.of R) kind (.slice A (R.L.take R.c).length cp)) rfl
  rename_i hK _
  refine hK a _ ?_
  have hp : a.tmps.getD 4 undef = .pointer (some ⟨w.heap.size, 0, none⟩) := (hA.base (s := 4) (by kernel_rfl)).trans rfl
  go_wp2
  exact ret_box rfl hA.defers hp hfin.1 rfl hfin.2

end Go.Proofs.YtjoiagaadofndaaDoor
