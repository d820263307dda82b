/-
  A region that draws its order, by what holds while it runs: a fact on what has been done, on the values that came and on the world, which every operation keeps that may come up. No program is walked here, and nothing is assumed.
-/
import Derived.Test.YtjoiagaadofndaaDoorProg
import Derived.WalkKit
import Derived.OwnWalkIn
import Derived.OrdersIn
import Derived.Orders
namespace Go.Proofs.YtjoiagaadofndaaDoor
section
open Go

def upd {α : Type} (f : Nat → α) (i : Nat) (x : α) (j : Nat) : α := if j = i then x else f j
theorem upd_same {α : Type} (f : Nat → α) (i : Nat) (x : α) : upd f i x i = x := by simp [upd]
theorem upd_ne {α : Type} (f : Nat → α) {i j : Nat} (x : α) (h : j ≠ i) : upd f i x j = f j := by simp [upd, h]
/-- which operation of the region writes a slot -/
def ownerOf (ops : Array Oper) (s : Nat) : Option Nat := (List.range ops.size).find? fun j => (ops[j]?.bind (·.dst)) == some s
def ownOk (ops : Array Oper) (n : Nat) : Bool := (List.range ops.size).all fun j => match ops[j]?.bind (·.dst) with | some d => ownerOf ops d == some j && decide (d < n) | none => true
def depsOk (ops : Array Oper) : Bool := (List.range ops.size).all fun j => match ops[j]? with | some o => o.after.all fun e => decide (e.on < j) | none => true
def slotAt (ops : Array Oper) (a0 : Act) (L : Nat → Bool) (f : Nat → Value) (s : Nat) : Option Value :=
  match ownerOf ops s with
  | some j => if L j then some (f j) else a0.tmps[s]?
  | none => a0.tmps[s]?
/-- the frame, where the operations L have been carried out and gave f -/
structure ActAt (ops : Array Oper) (a0 a : Act) (L : Nat → Bool) (f : Nat → Value) : Prop where
  defers : a.defers = a0.defers
  size : a.tmps.size = a0.tmps.size
  slots : ∀ s, a.tmps[s]? = slotAt ops a0 L f s
theorem ActAt.val {ops : Array Oper} {a0 a : Act} {L : Nat → Bool} {f : Nat → Value} (h : ActAt ops a0 a L f) {s j : Nat} (ho : ownerOf ops s = some j) (hL : L j = true) : a.eval (.tmp s) = f j := by
  have := h.slots s
  rw [slotAt, ho] at this
  simp only [hL, if_true] at this
  simp [Act.eval, Array.getD_eq_getD_getElem?, this]
theorem ActAt.base {ops : Array Oper} {a0 a : Act} {L : Nat → Bool} {f : Nat → Value} (h : ActAt ops a0 a L f) {s : Nat} (ho : ownerOf ops s = none) : a.eval (.tmp s) = a0.eval (.tmp s) := by
  have := h.slots s
  rw [slotAt, ho] at this
  simp only at this
  simp [Act.eval, Array.getD_eq_getD_getElem?, this]
theorem owner_of {ops : Array Oper} {n j d : Nat} {o : Oper} (hok : ownOk ops n = true) (ho : ops[j]? = some o) (hd : o.dst = some d) : ownerOf ops d = some j ∧ d < n := by
  have hlt : j < ops.size := (Array.getElem?_eq_some_iff.1 ho).1
  have := List.all_eq_true.1 hok j (List.mem_range.2 hlt)
  rw [ho] at this
  simp only [Option.bind_some, hd, Bool.and_eq_true, beq_iff_eq, decide_eq_true_eq] at this
  exact this
theorem owner_is {ops : Array Oper} {s j : Nat} (h : ownerOf ops s = some j) : ops[j]?.bind (·.dst) = some s := by
  have := List.find?_some h
  simpa using this
theorem ActAt.put {ops : Array Oper} {a0 a : Act} {L : Nat → Bool} {f : Nat → Value} {i : Nat} {o : Oper} (hok : ownOk ops a0.tmps.size = true) (h : ActAt ops a0 a L f) (ho : ops[i]? = some o) (v : Value) :
    ActAt ops a0 (a.put o.dst v) (upd L i true) (upd f i v) := by
  cases hd : o.dst with
  | none =>
    refine ⟨h.defers, h.size, fun s => ?_⟩
    show a.tmps[s]? = _
    rw [h.slots s, slotAt, slotAt]
    cases hs : ownerOf ops s with
    | none => rfl
    | some j =>
      have hne : j ≠ i := by
        rintro rfl
        have := owner_is hs
        rw [ho] at this
        simp [hd] at this
      simp only [upd_ne _ _ hne]
  | some d =>
    obtain ⟨hown, hlt⟩ := owner_of hok ho hd
    refine ⟨h.defers, by simp [Act.put, h.size], fun s => ?_⟩
    show (a.tmps.setIfInBounds d v)[s]? = _
    by_cases hsd : d = s
    · subst hsd
      rw [Array.getElem?_setIfInBounds_self, if_pos (by rw [h.size]; exact hlt), slotAt, hown]
      simp [upd_same]
    · rw [Array.getElem?_setIfInBounds_ne hsd, h.slots s, slotAt, slotAt]
      cases hs : ownerOf ops s with
      | none => rfl
      | some j =>
        have hne : j ≠ i := by
          rintro rfl
          have := owner_is hs
          rw [ho] at this
          simp [hd] at this
          exact hsd this
        simp only [upd_ne _ _ hne]

theorem count_upd {l : List Bool} {i : Nat} (h : l[i]? = some false) : (l.set i true).count false + 1 = l.count false := by
  induction l generalizing i with
  | nil => simp at h
  | cons x l ih =>
    cases i with
    | zero => simp at h; subst h; simp
    | succ i => have := ih (i := i) (by simpa using h); simp [List.count_cons]; omega
theorem ready_all {ops : Array Oper} {listed : Array Bool} (hs : listed.size = ops.size) (hd : depsOk ops = true) (h : Region.ready .any ops listed = []) : ∀ i, i < ops.size → listed.getD i false = true := by
  intro i
  induction i using Nat.strongRecOn with
  | _ i ih =>
    intro hi
    by_cases hl : listed.getD i true = false
    · exfalso
      have : i ∈ Region.ready .any ops listed := by
        rw [mem_ready]
        refine ⟨hl, ops[i], Array.getElem?_eq_getElem hi, fun e he _ => ?_⟩
        have h1 := List.all_eq_true.1 hd i (List.mem_range.2 hi)
        rw [Array.getElem?_eq_getElem hi] at h1
        have h2 := Array.all_eq_true_iff_forall_mem.1 h1 e he
        have h3 : e.on < i := by simpa using h2
        exact ih e.on h3 (by omega)
      rw [h] at this
      cases this
    · have hlt : i < listed.size := by omega
      simp [hlt] at hl ⊢
      exact hl

theorem wp_region_facts {P : Program} {ops : Array Oper} {Q : Exit → Act → World → Prop} {a0 : Act} {w0 : World} {id : Nat} (hm : P.follows .mixedOrders = true) (J : (Nat → Bool) → (Nat → Value) → World → Prop)
    (hok : ownOk ops a0.tmps.size = true) (hdeps : depsOk ops = true) (h0 : J (fun _ => false) (fun _ => undef) w0.drew)
    (hstep : ∀ i o, ops[i]? = some o → ∀ L f W a, J L f W → ActAt ops a0 a L f → L i = false → (∀ e ∈ o.after, Region.binds .any e = true → L e.on = true) →
      (∀ j o', ops[j]? = some o' → L j = true → ∀ e ∈ o'.after, Region.binds .any e = true → L e.on = true) →
      wpOp P ops Q i (fun a' W' => ∃ v, a' = a.put o.dst v ∧ J (upd L i true) (upd f i v) W') a W)
    (hend : ∀ f W a, J (fun j => decide (j < ops.size)) f W → ActAt ops a0 a (fun j => decide (j < ops.size)) f → Q .normal a W) : (Code.region id ops true).wp P Q a0 w0 := by
  refine wp_region_any hm ?_
  have key : ∀ fuel (listed : Array Bool) (f : Nat → Value) (a : Act) (w : World), listed.size = ops.size → listed.toList.count false ≤ fuel → J (fun j => listed.getD j false) f w → ActAt ops a0 a (fun j => listed.getD j false) f →
      (∀ j o', ops[j]? = some o' → listed.getD j false = true → ∀ e ∈ o'.after, Region.binds .any e = true → listed.getD e.on false = true) → wpAny P .any ops Q fuel listed a w := by
    intro fuel
    induction fuel with
    | zero =>
      intro listed f a w hs hc hJ hA hcl
      have hall : ∀ i, i < ops.size → listed.getD i false = true := fun i hi => by
        have hi' : i < listed.size := by omega
        by_cases hx : listed[i] = true
        · simp [hi', hx]
        · exfalso
          have hm : false ∈ listed.toList := by
            have := Array.getElem_mem_toList hi'
            simp at hx
            rwa [hx] at this
          have := List.count_pos_iff.2 hm
          omega
      have hfun : (fun j => listed.getD j false) = fun j => decide (j < ops.size) := by
        funext j
        by_cases hj : j < ops.size
        · rw [hall j hj]; simp [hj]
        · have : ¬ j < listed.size := by omega
          simp [hj, Array.getElem?_eq_none (show listed.size ≤ j by omega)]
      rw [hfun] at hJ hA
      refine ⟨?_, hend f w a hJ hA⟩
      rw [List.eq_nil_iff_forall_not_mem]
      intro i hi
      obtain ⟨h1, o, ho, _⟩ := mem_ready.1 hi
      have hlt : i < ops.size := (Array.getElem?_eq_some_iff.1 ho).1
      have h2 := hall i hlt
      have hi' : i < listed.size := by omega
      simp [hi'] at h1 h2
      rw [h1] at h2
      cases h2
    | succ fuel ih =>
      intro listed f a w hs hc hJ hA hcl
      refine ⟨fun hr => ?_, fun i hi => ?_⟩
      · have hall := ready_all hs hdeps hr
        have hfun : (fun j => listed.getD j false) = fun j => decide (j < ops.size) := by
          funext j
          by_cases hj : j < ops.size
          · rw [hall j hj]; simp [hj]
          · simp [hj, Array.getElem?_eq_none (show listed.size ≤ j by omega)]
        rw [hfun] at hJ hA
        exact hend f w a hJ hA
      · obtain ⟨h1, o, ho, hd⟩ := mem_ready.1 hi
        have hlt : i < ops.size := (Array.getElem?_eq_some_iff.1 ho).1
        have hi' : i < listed.size := by omega
        have h1' : listed[i] = false := by simpa [hi'] using h1
        have hset : (fun j => (listed.setIfInBounds i true).getD j false) = upd (fun j => listed.getD j false) i true := by
          funext j
          by_cases hj : j = i
          · subst hj
            rw [upd_same]
            simp [hi']
          · rw [upd_ne _ _ hj]
            exact getD_set_ne false (Ne.symm hj)
        refine wpOp_mono ?_ (hstep i o ho _ f w a hJ hA (by simp [hi', h1']) hd hcl)
        rintro a' w' ⟨v, rfl, hJ'⟩
        refine ih _ (upd f i v) _ _ (by simp [hs]) ?_ (by rw [hset]; exact hJ') (by rw [hset]; exact hA.put hok ho v) fun j o' ho' hj e he hb => ?_
        · have : listed.toList[i]? = some false := by rw [Array.getElem?_toList, Array.getElem?_eq_getElem hi', h1']
          have := count_upd this
          rw [Array.toList_setIfInBounds]
          omega
        · by_cases hji : j = i
          · subst hji
            rw [ho] at ho'
            injection ho' with ho'
            subst ho'
            exact getD_set_true (hd e he hb)
          · rw [getD_set_ne false (Ne.symm hji)] at hj
            exact getD_set_true (hcl j o' ho' hj e he hb)
  have hrep : (fun j => (Array.replicate ops.size false).getD j false) = fun _ => false := by
    funext j
    by_cases hj : j < ops.size <;> simp [hj]
  refine key ops.size (Array.replicate ops.size false) (fun _ => undef) a0 _ (by simp) (by simp) (by rw [hrep]; exact h0) ⟨rfl, rfl, fun s => ?_⟩ fun j o' ho' hj => ?_
  · rw [hrep, slotAt]
    cases ownerOf ops s <;> simp
  · have h2 : (Array.replicate ops.size false).getD j false = false := congrFun hrep j
    rw [h2] at hj
    cases hj

/-- one operation of a region, by what it does -/
theorem op_value {P : Program} {ops : Array Oper} {Q : Exit → Act → World → Prop} {i : Nat} {o : Oper} {K : Act → World → Prop} {a : Act} {w w' : World} {v : Value} (ho : ops[i]? = some o) (hg : o.guard = none) (hr : (execOp a.eval o).run P w = .ok (.value v) w') (hK : K (a.put o.dst v) w') : wpOp P ops Q i K a w := by
  unfold wpOp
  rw [ho]
  simp only [Region.wanted, hg, if_true]
  left
  unfold Oper.wp
  rw [hr]
  exact hK
theorem op_skip {P : Program} {ops : Array Oper} {Q : Exit → Act → World → Prop} {i : Nat} {o : Oper} {K : Act → World → Prop} {a : Act} {w w' : World} (ho : ops[i]? = some o) (hg : o.guard = none) (hr : (execOp a.eval o).run P w = .ok .skip w') (hK : K (a.put o.dst undef) w') : wpOp P ops Q i K a w := by
  unfold wpOp
  rw [ho]
  simp only [Region.wanted, hg, if_true]
  left
  unfold Oper.wp
  rw [hr]
  exact hK
theorem op_call {P : Program} {ops : Array Oper} {Q : Exit → Act → World → Prop} {i : Nat} {o : Oper} {K : Act → World → Prop} {a : Act} {w w' : World} {g : FuncId} {args : Array Value} (ho : ops[i]? = some o) (hg : o.guard = none) (hr : (execOp a.eval o).run P w = .ok (.enter g args) w') (hK : Calls P g args w' fun e w'' => ∃ v, e = .returned v ∧ K (a.put o.dst v) w'') : wpOp P ops Q i K a w := by
  unfold wpOp
  rw [ho]
  simp only [Region.wanted, hg, if_true]
  left
  unfold Oper.wp
  rw [hr]
  refine Calls.mono hK ?_
  rintro e w'' ⟨v, rfl, h⟩
  exact h
/-- the region of a function's body with a number -/
def regionsOf : Code → List (Nat × Array Oper)
  | .region n ops _ => [(n, ops)]
  | .seq a b => regionsOf a ++ regionsOf b
  | .block _ c => regionsOf c
  | .loop c => regionsOf c
  | .cond _ a b => regionsOf a ++ regionsOf b
  | _ => []
def regionOf (f : Func) (n : Nat) : Array Oper := (((f.body.map regionsOf).getD []).find? fun p => p.1 == n).elim #[] (·.2)
/-- what an operation is: what it does, its slot, its guard, what it waits for -/
def opIs (ops : Array Oper) (i : Nat) : Option (Op × Option Nat × Bool × List Nat) := (ops[i]?).map fun o => (o.op, o.dst, o.guard.isNone, ((o.after.filter (Region.binds .any)).map (·.on)).toList)
theorem op_is {ops : Array Oper} {i : Nat} {o : Oper} {op : Op} {d : Option Nat} {g : Bool} {l : List Nat} (ho : ops[i]? = some o) (h : opIs ops i = some (op, d, g, l)) : o.op = op ∧ o.dst = d ∧ o.guard.isNone = g ∧ ∀ j ∈ l, ∃ e ∈ o.after, Region.binds .any e = true ∧ e.on = j := by
  unfold opIs at h
  rw [ho] at h
  simp only [Option.map_some, Option.some.injEq, Prod.mk.injEq] at h
  obtain ⟨h1, h2, h3, h4⟩ := h
  refine ⟨h1, h2, h3, fun j hj => ?_⟩
  rw [← h4] at hj
  simp at hj
  obtain ⟨e, ⟨he, hb⟩, hon⟩ := hj
  exact ⟨e, he, hb, hon⟩
end
section
open Go
/-- an operation's parts, each by itself -/
def opOp (ops : Array Oper) (i : Nat) : Option Op := (ops[i]?).map (·.op)
def opDst (ops : Array Oper) (i : Nat) : Option (Option Nat) := (ops[i]?).map (·.dst)
def opFree (ops : Array Oper) (i : Nat) : Bool := match ops[i]? with | some o => o.guard.isNone | none => false
def opDep (ops : Array Oper) (i j : Nat) : Bool := match ops[i]? with | some o => o.after.any (fun e => Region.binds .any e && e.on == j) | none => false
theorem op_op {ops : Array Oper} {i : Nat} {o : Oper} {op : Op} (ho : ops[i]? = some o) (h : opOp ops i = some op) : o.op = op := by
  unfold opOp at h
  rw [ho] at h
  exact Option.some.inj h
theorem op_free {ops : Array Oper} {i : Nat} {o : Oper} (ho : ops[i]? = some o) (h : opFree ops i = true) : o.guard = none := by
  unfold opFree at h
  rw [ho] at h
  simpa using h
theorem op_dep {ops : Array Oper} {i j : Nat} {o : Oper} {L : Nat → Bool} (ho : ops[i]? = some o) (hd : ∀ e ∈ o.after, Region.binds .any e = true → L e.on = true) (h : opDep ops i j = true) : L j = true := by
  unfold opDep at h
  rw [ho] at h
  obtain ⟨k, hk, he⟩ := Array.any_eq_true.1 h
  simp only [Bool.and_eq_true, beq_iff_eq] at he
  rw [← he.2]
  exact hd _ (Array.getElem_mem hk) he.1
end
end Go.Proofs.YtjoiagaadofndaaDoor
