/-
  The variables of package tparm: Get, Set, Clone, for every letter and every value.
-/
import Derived.Test.YtgjebakjjgjojaaGreatDoorTpCap
import Derived.Deep.RegionLaw
namespace Go.Proofs.YtgjebakjjgjojaaGreatDoor
open Go.RowKit Go.Shelf Go.Lib Go.Maps
attribute [local go_sem] Oper.semAt_some

/-- a variable that was set: its letter and its value -/
structure VE where
  c : UInt8
  p : PrmD
def vL (es : List VE) : List (Lit × DataW Value) := es.map fun x => (.int .u8 (x.c.toNat : Int), .held (prmVal x.p))
def vD (es : List VE) : DataW Value := .map (vL es)
def findV (es : List VE) (c : UInt8) : Option VE := es.find? fun x => x.c == c
def delV (c : UInt8) (es : List VE) : List VE := es.filter fun x => !(x.c == c)
def insV (x : VE) : List VE → List VE
  | [] => [x]
  | y :: r => if x.c.toNat < y.c.toNat then x :: y :: r else y :: insV x r
def putV (x : VE) (es : List VE) : List VE := insV x (delV x.c es)
theorem same_u8 (a b : UInt8) : Lit.sameKey (.int .u8 (a.toNat : Int)) (.int .u8 (b.toNat : Int)) = (a == b) := by
  show decide (IntKind.u8 = IntKind.u8 ∧ (a.toNat : Int) = (b.toNat : Int)) = (a == b)
  rw [Bool.eq_iff_iff]
  simp only [decide_eq_true_eq, true_and, beq_iff_eq]
  constructor
  · intro h; exact UInt8.toNat_inj.1 (by omega)
  · rintro rfl; rfl
theorem vD_at (es : List VE) (c : UInt8) (z : DataW Value) : (vD es).atKey (.int .u8 (c.toNat : Int)) z = match findV es c with | some x => .held (prmVal x.p) | none => z := by
  simp only [vD, vL, DataW.atKey, findV]
  induction es with
  | nil => rfl
  | cons y r ih =>
    simp only [List.map_cons, List.find?_cons, same_u8]
    cases y.c == c with
    | true => rfl
    | false => exact ih
theorem vD_size (es : List VE) : Maps.size (vD es) = es.length := by simp [vD, vL, Maps.size]
theorem vL_del (c : UInt8) (es : List VE) : vL (delV c es) = (vL es).filter fun q => !q.1.sameKey (.int .u8 (c.toNat : Int)) := by
  simp only [vL, delV, List.filter_map]
  congr 1
  apply List.filter_congr
  intro x _
  simp only [Function.comp, same_u8]
theorem vL_ins (x : VE) (es : List VE) : vL (insV x es) = DataW.insert (.int .u8 (x.c.toNat : Int), .held (prmVal x.p)) (vL es) := by
  induction es with
  | nil => rfl
  | cons y r ih =>
    show vL (if x.c.toNat < y.c.toNat then x :: y :: r else y :: insV x r) =
      if (Lit.int .u8 (x.c.toNat : Int)).before (.int .u8 (y.c.toNat : Int)) then (Lit.int .u8 (x.c.toNat : Int), DataW.held (prmVal x.p)) :: (.int .u8 (y.c.toNat : Int), .held (prmVal y.p)) :: vL r else (.int .u8 (y.c.toNat : Int), .held (prmVal y.p)) :: DataW.insert (.int .u8 (x.c.toNat : Int), .held (prmVal x.p)) (vL r)
    by_cases h : x.c.toNat < y.c.toNat
    · have h' : (Lit.int .u8 (x.c.toNat : Int)).before (.int .u8 (y.c.toNat : Int)) = true := by
        show decide ((x.c.toNat : Int) < (y.c.toNat : Int)) = true
        simp only [decide_eq_true_eq]; omega
      rw [if_pos h, if_pos h']; rfl
    · have h' : ¬ (Lit.int .u8 (x.c.toNat : Int)).before (.int .u8 (y.c.toNat : Int)) = true := by
        show ¬ decide ((x.c.toNat : Int) < (y.c.toNat : Int)) = true
        simp only [decide_eq_true_eq]; omega
      rw [if_neg h, if_neg h', ← ih]; rfl
theorem vD_put (x : VE) (es : List VE) : (vD es).put (.int .u8 (x.c.toNat : Int)) (.held (prmVal x.p)) = vD (putV x es) := by
  simp only [vD, DataW.put, putV, vL_ins, vL_del]

theorem mem_insV {x y : VE} {es : List VE} : y ∈ insV x es ↔ y = x ∨ y ∈ es := by
  induction es with
  | nil => simp [insV]
  | cons z r ih =>
    simp only [insV]
    split
    · simp
    · simp only [List.mem_cons, ih]
      constructor
      · rintro (h | h | h) <;> simp [h]
      · rintro (h | h | h) <;> simp [h]
/-- the letters rise -/
def Rises (es : List VE) : Prop := es.Pairwise fun x y => x.c.toNat < y.c.toNat
theorem rises_ins {x : VE} {es : List VE} (h : Rises es) (hn : ∀ y ∈ es, y.c ≠ x.c) : Rises (insV x es) := by
  induction es with
  | nil => simp [insV, Rises]
  | cons y r ih =>
    have hp := List.pairwise_cons.1 h
    simp only [insV]
    split
    · next hlt =>
      refine List.pairwise_cons.2 ⟨fun z hz => ?_, h⟩
      rcases List.mem_cons.1 hz with rfl | hz
      · exact hlt
      · exact Nat.lt_trans hlt (hp.1 z hz)
    · next hge =>
      refine List.pairwise_cons.2 ⟨fun z hz => ?_, ih hp.2 fun z hz => hn z (List.mem_cons_of_mem _ hz)⟩
      rcases mem_insV.1 hz with rfl | hz
      · have h1 : y.c.toNat ≠ z.c.toNat := fun e => hn y (by simp) (UInt8.toNat_inj.1 e)
        omega
      · exact hp.1 z hz
theorem rises_put {x : VE} {es : List VE} (h : Rises es) : Rises (putV x es) :=
  rises_ins (h.filter _) fun y hy => by simpa [delV] using (List.mem_filter.1 hy).2
theorem rises_length {es : List VE} (h : Rises es) : es.length ≤ 256 := by
  suffices H : ∀ (es : List VE) (k : Nat), Rises es → (∀ x ∈ es, k ≤ x.c.toNat) → k ≤ 256 → es.length ≤ 256 - k by simpa using H es 0 h (fun _ _ => Nat.zero_le _) (by omega)
  intro es
  induction es with
  | nil => intro k _ _ _; exact Nat.zero_le _
  | cons y r ih =>
    intro k h hk hk2
    have hp := List.pairwise_cons.1 h
    have hy := hk y (by simp)
    have hlt := y.c.toNat_lt
    have := ih (y.c.toNat + 1) hp.2 (fun z hz => hp.1 z hz) (by omega)
    simp only [List.length_cons]
    omega
theorem find_ins {x : VE} {es : List VE} (hn : ∀ y ∈ es, y.c ≠ x.c) (c : UInt8) : findV (insV x es) c = if x.c = c then some x else findV es c := by
  induction es with
  | nil => by_cases h : x.c = c <;> simp [insV, findV, h]
  | cons y r ih =>
    have ih' := ih fun z hz => hn z (List.mem_cons_of_mem _ hz)
    have hy := hn y (by simp)
    simp only [insV]
    split
    · by_cases h : x.c = c <;> simp [findV, h]
    · simp only [findV, List.find?_cons] at ih' ⊢
      by_cases h : y.c = c
      · have : x.c ≠ c := fun e => hy (h.trans e.symm)
        simp [h, this]
      · have h0 : (y.c == c) = false := by simpa using h
        simp only [h0]
        exact ih'
theorem find_del {es : List VE} {c d : UInt8} (h : c ≠ d) : findV (delV c es) d = findV es d := by
  induction es with
  | nil => rfl
  | cons y r ih =>
    simp only [findV, delV] at ih ⊢
    by_cases hy : y.c = c
    · have h1 : (y.c == d) = false := by simpa [hy] using h
      rw [List.filter_cons_of_neg (by simp [hy]), List.find?_cons, h1]
      exact ih
    · rw [List.filter_cons_of_pos (by simp [hy]), List.find?_cons, List.find?_cons, ih]
theorem find_put {x : VE} {es : List VE} (c : UInt8) : findV (putV x es) c = if x.c = c then some x else findV es c := by
  rw [putV, find_ins fun y hy => by simpa [delV] using (List.mem_filter.1 hy).2]
  by_cases h : x.c = c
  · simp [h]
  · simp [h, find_del h]
/-- what a letter holds -/
def valV (es : List VE) (c : UInt8) : PrmD := match findV es c with | some x => x.p | none => prm0
def setV (vs : UInt8 → PrmD) (c : UInt8) (p : PrmD) : UInt8 → PrmD := fun d => if c = d then p else vs d
theorem val_put (x : VE) (es : List VE) : valV (putV x es) = setV (valV es) x.c x.p := by
  funext d
  simp only [valV, setV, find_put]
  by_cases h : x.c = d <;> simp [h]

/-- the variables, and that their letters rise -/
structure VarsS (W : World) (vb bm : Nat) (es : List VE) : Prop where
  box : W.heap[vb]? = some (.cells #[.map (some bm)] 54 (0, 0))
  map : W.ownsMap Tryz.prog 5 heldR bm es.length (vD es)
  rises : Rises es
theorem VarsS.at {W : World} {vb bm : Nat} {es : List VE} (h : VarsS W vb bm es) : VarsAt W vb bm (valV es) := by
  refine ⟨h.box, es.length, vD es, h.map, Nat.le_trans (rises_length h.rises) (by decide), fun c => ?_⟩
  rw [vD_at, valV]
  cases findV es c <;> rfl
theorem VarsS.same {W W' : World} {vb bm : Nat} {es : List VE} (h : VarsS W vb bm es) (hv : W'.heap[vb]? = W.heap[vb]?) (hm : W'.heap[bm]? = W.heap[bm]?) : VarsS W' vb bm es := by
  obtain ⟨es', clock, g1, g2⟩ := h.map
  exact ⟨hv.trans h.box, ⟨es', clock, hm.trans g1, g2⟩, h.rises⟩
theorem VarsS.below {W W' : World} {vb bm : Nat} {es : List VE} (h : VarsS W vb bm es) (hb : Below W.heap.size W W') : VarsS W' vb bm es := h.same (hb.block _ h.at.lt.1) (hb.block _ h.at.lt.2)
theorem VarsS.drew {W : World} {vb bm : Nat} {es : List VE} (h : VarsS W vb bm es) : VarsS W.drew vb bm es := h.same rfl rfl
theorem keyB (c : UInt8) : keyOf Tryz.prog 5 (.int .u8 (c.toNat : Int)) = some (.int .u8 (c.toNat : Int)) := by
  have := c.toNat_lt
  refine keyOf_int_mk Tryz.underlying5 ?_
  show (decide (IntKind.u8.min ≤ (c.toNat : Int)) && decide ((c.toNat : Int) ≤ IntKind.u8.max)) = true
  rw [Bool.and_eq_true, decide_eq_true_eq, decide_eq_true_eq]
  exact ⟨by show (0 : Int) ≤ _; omega, by show _ ≤ (255 : Int); omega⟩

/-- 'm[k]' -/
theorem wpList_lookup_var (w : World) {ops : Array Oper} {rest : List Oper} {o : Oper} {a : Act} {Q : Exit → Act → World → Prop} (hg : o.guard = none) (m x : Operand) (hop : o.op = Op.lookup 52 m x false)
    (vb bm : Nat) (vs : UInt8 → PrmD) (c : UInt8) (hm : a.eval m = .map (some bm)) (hv : VarsAt w vb bm vs) (hx : a.eval x = .int .u8 (c.toNat : Int))
    (hK : wpList Tryz.prog ops Q rest (a.put o.dst (prmVal (vs c))) w) : wpList Tryz.prog ops Q (o :: rest) a w := by
  obtain ⟨n, D, h1, h2, h3⟩ := hv.map
  refine wpList_plain hg fun K' hK' => ?_
  obtain ⟨v, ps, hrun, hv⟩ := h1.lookup lawB Tryz.underlying52 (zeroP _) (zd := .held (prmVal prm0)) (zp := []) rfl (keyB c)
  rw [h3 c] at hv
  injection hv with hv
  injection hv with hv _
  injection hv with hv
  subst hv
  unfold Oper.wp
  simp [execOp, hop, hm, hx, hrun, Result.andThen]
  exact hK' _ _ hK

set_option maxRecDepth 100000 in
theorem varGet_any (W : World) (vb bm : Nat) (vs : UInt8 → PrmD) (c : UInt8) (h : VarsAt W vb bm vs) :
    Calls Tryz.prog 21 #[.pointer (some ⟨vb, 0, none⟩), .int .u8 (c.toNat : Int)] W fun e w' => e = .returned (prmVal (vs c)) ∧ Below W.heap.size W w' := by
  have c0 := cell_of_row W vb 0 _ _ _ h.box
  have hlt := h.lt.1
  have HV := Lib.hid h
  have CU := Lib.hid (fun (W' : World) (hW : Below W.heap.size W W') => usable_any W' vb bm ((hW.cell (p := ⟨vb, 0, none⟩) hlt).trans c0))
  clear h
  go_enter Tryz.func21, Tryz.ntmps21
  go_wp2_with (first
    | (go_at_call 24; refine (CU.out _ ((Below.refl _ _).alloc (Nat.le_refl _) _)).mono ?_; rintro e w' ⟨rfl, rfl⟩)
    | (at_lookup; refine wpList_lookup_var _ rfl _ _ rfl vb bm vs c rfl (HV.out.below ((Below.refl _ _).alloc (Nat.le_refl _) _)) rfl ?_))
  exact bodyPost_ret (v := prmVal (vs c)) (by simp [results, Tryz.results21, go_sem]) rfl ⟨rfl, (Below.refl _ _).alloc (Nat.le_refl _) _⟩

/-! ### Set -/
theorem mapB_tight {w : World} {bm n : Nat} {D : DataW Value} (h : w.ownsMap Tryz.prog 5 heldR bm n D) : w.ownsMap Tryz.prog 5 heldR bm (Maps.size D) D := by
  obtain ⟨es, clock, h1, h2, h3, rfl⟩ := h
  exact ⟨es, clock, h1, h2, by simp [Maps.size, length_sorted], rfl⟩
theorem run_var_put (w : World) (vb bm : Nat) (es : List VE) (c : UInt8) (p : PrmD) (h : VarsS w vb bm es) :
    ∃ w', (Instr.mapUpdate 52 (.map (some bm)) (.int .u8 (c.toNat : Int)) (prmVal p)).run Tryz.prog w = .ok () w' ∧ VarsS w' vb bm (putV ⟨c, p⟩ es) ∧ w.grownBy w' (some bm) := by
  obtain ⟨w', hrun, r1, r2⟩ := h.map.update lawB Tryz.underlying52 (by have := rises_length h.rises; unfold maxLen; omega) (keyB c) (d := .held (prmVal p)) (ps := []) (val := prmVal p) rfl
  have e := vD_put ⟨c, p⟩ es
  simp only at e
  rw [e] at r1
  have := mapB_tight r1
  rw [vD_size] at this
  refine ⟨w', hrun, ⟨(r2.block _ h.at.lt.1 fun e => ?_).trans h.box, this, rises_put h.rises⟩, r2⟩
  injection e with e
  exact map_cells h.at (e ▸ h.box)
theorem step_var_put {ops : Array Oper} {o : Oper} {a : Act} {w : World} {K : Act → World → Prop} {Q : Exit → Act → World → Prop} {E : Prop} (hgd : o.guard = none) (m y z : Operand)
    (ho : o.op = Op.mapUpdate 52 m y z) (vb bm : Nat) (es : List VE) (c : UInt8) (p : PrmD) (hm : a.eval m = .map (some bm)) (hy : a.eval y = .int .u8 (c.toNat : Int)) (hz : a.eval z = prmVal p) (hown : VarsS w vb bm es)
    (h : ∀ w', VarsS w' vb bm (putV ⟨c, p⟩ es) → w.grownBy w' (some bm) → K (a.put o.dst undef) w') :
    if Region.wanted o (yielded ops a.tmps) = true then Oper.wp Tryz.prog o a w K Q else E := by
  have hw : Region.wanted o (yielded ops a.tmps) = true := by simp [Region.wanted, hgd]
  rw [if_pos hw]
  obtain ⟨w', hrun, r1, r2⟩ := run_var_put w vb bm es c p hown
  unfold Oper.wp
  simp [execOp, ho, hm, hy, hz, hrun, Result.andThen]
  exact h w' r1 r2

/-- what Set answers, and what the variables then are -/
def setE (c : UInt8) (p : PrmD) : Int := if isLetterP c = false ∨ noValP p = true then 1 else 0
def setEs (c : UInt8) (p : PrmD) (es : List VE) : List VE := if isLetterP c = false ∨ noValP p = true then es else putV ⟨c, p⟩ es
def SetPost (W : World) (vb bm : Nat) (c : UInt8) (p : PrmD) (es : List VE) (e : Ending) (w' : World) : Prop :=
  e = .returned (.int .i64 (setE c p)) ∧ VarsS w' vb bm (setEs c p es) ∧ Touch (fun k => k = bm) W w'

set_option maxRecDepth 100000 in
theorem varSet_any (W : World) (vb bm : Nat) (es : List VE) (c : UInt8) (p : PrmD) (h : VarsS W vb bm es) :
    Calls Tryz.prog 11 #[.pointer (some ⟨vb, 0, none⟩), .int .u8 (c.toNat : Int), prmVal p] W (SetPost W vb bm c p es) := by
  have c0 := cell_of_row W vb 0 _ _ _ h.box
  have hlt := h.at.lt
  have HV := Lib.hid h
  have CU := Lib.hid (fun (W' : World) (hW : Below W.heap.size W W') => usable_any W' vb bm ((hW.cell (p := ⟨vb, 0, none⟩) hlt.1).trans c0))
  have CL := Lib.hid (letter_any c)
  have CN := Lib.hid (noval_any p)
  have HE : Hid (setE c p = if isLetterP c = false ∨ noValP p = true then 1 else 0) := Lib.hid rfl
  have HS : Hid (setEs c p es = if isLetterP c = false ∨ noValP p = true then es else putV ⟨c, p⟩ es) := Lib.hid rfl
  clear h
  obtain ⟨n, t, b⟩ := p
  generalize isLetterP c = l at *
  generalize noValP _ = q at *
  cases l with
  | false =>
    go_enter Tryz.func11, Tryz.ntmps11
    go_wp2_with (first
      | (go_at_call 24; refine (CU.out _ ((Below.refl _ _).alloc (Nat.le_refl _) _)).mono ?_; rintro e w' ⟨rfl, rfl⟩)
      | (go_at_call 26; refine (CL.out _).mono ?_; rintro e w' ⟨rfl, rfl⟩))
    go_ret
    have he : setE c ⟨n, t, b⟩ = 1 := by rw [HE.out]; simp
    have hs : setEs c ⟨n, t, b⟩ es = es := by rw [HS.out]; simp
    refine ⟨by rw [he]; rfl, ?_, Touch.of_below ((Below.refl _ _).alloc (Nat.le_refl _) _)⟩
    rw [hs]
    exact HV.out.below ((Below.refl _ _).alloc (Nat.le_refl _) _)
  | true =>
    cases q with
    | true =>
      go_enter Tryz.func11, Tryz.ntmps11
      go_wp2_with (first
        | (go_at_call 24; refine (CU.out _ ((Below.refl _ _).alloc (Nat.le_refl _) _)).mono ?_; rintro e w' ⟨rfl, rfl⟩)
        | (go_at_call 26; refine (CL.out _).mono ?_; rintro e w' ⟨rfl, rfl⟩)
        | (go_at_call 27; refine (CN.out _).mono ?_; rintro e w2 ⟨rfl, hb2⟩))
      go_ret
      have hb : Below W.heap.size W w2 := ((Below.refl _ _).alloc (Nat.le_refl _) _).trans (hb2.mono (by simp))
      have he : setE c ⟨n, t, b⟩ = 1 := by rw [HE.out]; rfl
      have hs : setEs c ⟨n, t, b⟩ es = es := by rw [HS.out]; rfl
      refine ⟨by rw [he]; rfl, ?_, Touch.of_below hb⟩
      rw [hs]
      exact HV.out.below hb
    | false =>
      go_enter Tryz.func11, Tryz.ntmps11
      go_wp2_with (first
        | (go_at_call 24; refine (CU.out _ ((Below.refl _ _).alloc (Nat.le_refl _) _)).mono ?_; rintro e w' ⟨rfl, rfl⟩)
        | (go_at_call 26; refine (CL.out _).mono ?_; rintro e w' ⟨rfl, rfl⟩)
        | (go_at_call 27; refine (CN.out _).mono ?_; rintro e w2 ⟨rfl, hb2⟩))
      have hb : Below W.heap.size W w2 := ((Below.refl _ _).alloc (Nat.le_refl _) _).trans (hb2.mono (by simp))
      have hV2 := HV.out.below hb
      have c2 := cell_of_row w2 vb 0 _ _ _ hV2.box
      have hbk : w2.heap[W.heap.size]? = some (.cells #[.int .i32 n, str t, .bool b] 24 (0, 0)) := (hb2.block _ (by simp)).trans (alloc_new W _)
      have x0 := cell_of_row w2 _ 0 _ _ _ hbk
      have x1 := cell_of_row w2 _ 1 _ _ _ hbk
      have x2 := cell_of_row w2 _ 2 _ _ _ hbk
      obtain ⟨w3, hrun3, hS3, hg3⟩ := run_var_put w2.drew vb bm es c ⟨n, t, b⟩ hV2.drew
      have HB := Lib.hid hb
      have HV2 := Lib.hid hV2
      have HS3 := Lib.hid hS3
      have HG3 := Lib.hid hg3
      clear hb hb2 hV2 hbk hS3 hg3
      go_region_law (fail)
      all_goals
        go_wp2_with fail
        go_ret
        have he := HE.out.trans (if_neg (by decide))
        have hs := HS.out.trans (if_neg (by decide))
        refine ⟨by rw [he]; rfl, ?_, ?_⟩
        · rw [hs]; exact HS3.out
        · exact (Touch.of_below HB.out).drew.trans (Touch.of_grown HG3.out fun k hk => (Option.some.inj hk).symm)

/-! ### new variables -/
set_option maxRecDepth 100000 in
theorem newVarsS_any (w : World) : Calls Tryz.prog 16 #[] w fun e w' => e = .returned (.pointer (some ⟨w.heap.size + 1, 0, none⟩)) ∧ VarsS w' (w.heap.size + 1) w.heap.size [] ∧ Below w.heap.size w w' := by
  have hmm := @run_makeMap_plain Tryz.prog
  go_enter Tryz.func16, Tryz.ntmps16
  go_wp2_with fail
  go_ret
  refine ⟨rfl, ⟨alloc_two w _ _, ?_, List.Pairwise.nil⟩, ((Below.refl _ _).alloc (Nat.le_refl _) _).alloc (by simp) _⟩
  exact (World.ownsMap_made w _ _ _).alloc _
end Go.Proofs.YtgjebakjjgjojaaGreatDoor
