/-
  What All and Clone answer; what a ring that no call made answers.
-/
import Derived.Test.YtknekldnipdpeaaKrKill3
namespace Go.Proofs.Ytknekldnipdpeaa
open Go.RowKit Go.Shelf Go.Lib
attribute [local go_sem] Oper.semAt_some

/-- a part of a row, loaded -/
theorem run_loadVar_part {P : Program} (w : World) (g off : Nat) (ty : TypeId) (cs : List Value) (d : TypeDesc) (hc : ∀ j v, cs[j]? = some v → w.cell? ⟨g, off + j, none⟩ = some v)
    (hu : P.underlying ty = some d) (hd : (match d with | .struct _ | .array _ _ => true | _ => false) = true) (hi : (P.info? ty).map (·.size) = some cs.length) :
    (loadVar ty ⟨g, off, none⟩).run P w = .ok (.agg cs.toArray) w := by
  have hl : (loadCells ⟨g, off, none⟩ cs.length).run P w = .ok cs.toArray w :=
    run_loadCells_list (P := P) w ⟨g, off, none⟩ cs (fun j v hv => by rw [add_off]; exact hc j v hv)
  cases hq : P.info? ty with
  | none => simp [hq] at hi
  | some i =>
    have hs : i.size = cs.length := by simpa [hq] using hi
    have hagg : (isAgg ty).run P w = .ok true w := by
      unfold isAgg
      rw [Sem.run_bind, run_underlying hu w]
      cases d <;> simp_all
    simp [loadVar, Sem.run_bind, hagg, sizeOf, typeInfo, hq, hs, hl]
theorem wpList_load_part {P : Program} {ops : Array Oper} {rest : List Oper} {o : Oper} {a : Act} {w : World} {Q : Exit → Act → World → Prop} (hgd : o.guard = none) (ty : TypeId) (x : Operand) (ho : o.op = .load ty x)
    (g off : Nat) (hx : a.eval x = .pointer (some ⟨g, off, none⟩)) (cs : Array Value) (d : TypeDesc) (hc : ∀ j v, cs[j]? = some v → w.cell? ⟨g, off + j, none⟩ = some v)
    (hu : P.underlying ty = some d) (hd : (match d with | .struct _ | .array _ _ => true | _ => false) = true) (hi : (P.info? ty).map (·.size) = some cs.size)
    (h : wpList P ops Q rest (a.put o.dst (.agg cs)) w) : wpList P ops Q (o :: rest) a w :=
  wpList_plain hgd fun _ hK => by
    have := run_loadVar_part (P := P) w g off ty cs.toList d (fun j v hv => hc j v (by simpa using hv)) hu hd (by simpa using hi)
    unfold Oper.wp execOp
    simp only [ho, hx, Instr.loadAt, Instr.sureAddr, Sem.run_bind, Sem.run_pure, Result.andThen_ok, this]
    exact hK _ _ h
/-- a closure's own copy of a cycle -/
structure CBox (K : Nat → Prop) (w : World) (b : Nat) (es : List (List Int)) : Prop where
  ex : ∃ vs nw, w.heap[b]? = some (.cells (crow vs nw es.length).toArray 56 (0, 0)) ∧ vs.length = 60 ∧ nw < 60 ∧ Ents K w vs nw es
  many : es.length ≤ 60
  lt : b < w.heap.size
theorem CBox.to {K : Nat → Prop} {w W : World} {b : Nat} {es : List (List Int)} (h : CBox K w b es) (ha : Agree (fun k => K k ∨ k = b) w W) : CBox K W b es := by
  obtain ⟨⟨vs, nw, h1, h2, h3, h4⟩, h5, h6⟩ := h
  exact ⟨⟨vs, nw, (ha.block b (.inr rfl) h6).trans h1, h2, h3, h4.to (ha.mono fun _ _ hk => .inl hk)⟩, h5, Nat.lt_of_lt_of_le h6 ha.size⟩
theorem cz_lit : (#[.slice none 0 0, .slice none 0 0, .slice none 0 0, .slice none 0 0, .slice none 0 0, .slice none 0 0, .slice none 0 0, .slice none 0 0, .slice none 0 0, .slice none 0 0, .slice none 0 0, .slice none 0 0, .slice none 0 0, .slice none 0 0, .slice none 0 0, .slice none 0 0, .slice none 0 0, .slice none 0 0, .slice none 0 0, .slice none 0 0, .slice none 0 0, .slice none 0 0, .slice none 0 0, .slice none 0 0, .slice none 0 0, .slice none 0 0, .slice none 0 0, .slice none 0 0, .slice none 0 0, .slice none 0 0, .slice none 0 0, .slice none 0 0, .slice none 0 0, .slice none 0 0, .slice none 0 0, .slice none 0 0, .slice none 0 0, .slice none 0 0, .slice none 0 0, .slice none 0 0, .slice none 0 0, .slice none 0 0, .slice none 0 0, .slice none 0 0, .slice none 0 0, .slice none 0 0, .slice none 0 0, .slice none 0 0, .slice none 0 0, .slice none 0 0, .slice none 0 0, .slice none 0 0, .slice none 0 0, .slice none 0 0, .slice none 0 0, .slice none 0 0, .slice none 0 0, .slice none 0 0, .slice none 0 0, .slice none 0 0, .int .i64 0, .int .i64 0] : Array Value) = (crow vs0 0 0).toArray := by kernel_rfl
theorem cz_size : (Try.prog.info? 56).map (·.size) = some 62 := by kernel_rfl
theorem ring_size : (Try.prog.info? 58).map (·.size) = some 64 := by kernel_rfl
theorem rz_lit : (#[.bool false, .slice none 0 0, .slice none 0 0, .slice none 0 0, .slice none 0 0, .slice none 0 0, .slice none 0 0, .slice none 0 0, .slice none 0 0, .slice none 0 0, .slice none 0 0, .slice none 0 0, .slice none 0 0, .slice none 0 0, .slice none 0 0, .slice none 0 0, .slice none 0 0, .slice none 0 0, .slice none 0 0, .slice none 0 0, .slice none 0 0, .slice none 0 0, .slice none 0 0, .slice none 0 0, .slice none 0 0, .slice none 0 0, .slice none 0 0, .slice none 0 0, .slice none 0 0, .slice none 0 0, .slice none 0 0, .slice none 0 0, .slice none 0 0, .slice none 0 0, .slice none 0 0, .slice none 0 0, .slice none 0 0, .slice none 0 0, .slice none 0 0, .slice none 0 0, .slice none 0 0, .slice none 0 0, .slice none 0 0, .slice none 0 0, .slice none 0 0, .slice none 0 0, .slice none 0 0, .slice none 0 0, .slice none 0 0, .slice none 0 0, .slice none 0 0, .slice none 0 0, .slice none 0 0, .slice none 0 0, .slice none 0 0, .slice none 0 0, .slice none 0 0, .slice none 0 0, .slice none 0 0, .slice none 0 0, .slice none 0 0, .int .i64 0, .int .i64 0, .int .i64 0] : Array Value) = (Value.bool false :: (crow vs0 0 0 ++ [.int .i64 0])).toArray := by kernel_rfl
section
variable {K : Nat → Prop}
set_option maxRecDepth 1000000 in
set_option maxHeartbeats 4000000 in
theorem all_any (w : World) (g : Nat) (S : KS) (h : RAt K w g S) : Calls Try.prog 23 #[.pointer (some ⟨g, 0, none⟩)] w fun e w' => e = .returned (.func (.func 34) #[] #[.pointer (some ⟨w.heap.size, 0, none⟩)]) ∧ CBox K w' w.heap.size S.es ∧ Below w.heap.size w w' := by
  obtain ⟨vs, nw, hr, he⟩ := h.row
  obtain ⟨Z, hZ⟩ : ∃ Z, Z = (crow vs0 0 0).toArray := ⟨_, rfl⟩
  have hb : Below w.heap.size w (w.alloc (.cells Z 56)) := (Below.refl _ _).alloc (Nat.le_refl _) _
  have hr1 : Row (w.alloc (.cells Z 56)) g vs nw S.es.length S.pl := hr.same (hb.block g h.lt)
  have CU := Lib.hid (usable_row _ g hr1.cells.c0)
  have hcy := hr1.cyc
  have HC : Hid (∀ j v, (crow vs nw S.es.length).toArray[j]? = some v → (w.alloc (.cells Z 56)).cell? ⟨g, 1 + j, none⟩ = some v) := Lib.hid fun j v hv => by
    rw [List.getElem?_toArray] at hv
    have hj : j < 62 := by have := (List.getElem?_eq_some_iff.1 hv).1; rwa [crow_length hr.len] at this
    rw [cell_of_row _ g (1 + j) _ _ _ hr1.row, krow_cyc hr.len hj]
    exact hv
  have HL : Hid ((crow vs nw S.es.length).toArray.size = 62) := Lib.hid (by rw [List.size_toArray]; exact crow_length hr.len _ _)
  have HN : Hid ((w.alloc (.cells Z 56)).heap[w.heap.size]? = some (.cells Z 56 (0, 0))) := Lib.hid (alloc_new _ _)
  have HZS : Hid (Z.size = 62) := Lib.hid (by rw [hZ, List.size_toArray]; exact crow_length List.length_replicate _ _)
  have HONE : Hid ((crow vs nw S.es.length).toArray.all (·.oneCell') = true) := Lib.hid (by
    rw [← Array.all_toList]
    simp only [crow, List.all_append, Bool.and_eq_true]
    exact ⟨List.all_eq_true.2 hr.one, rfl⟩)
  have FIN : Hid (CBox K ((w.alloc (.cells Z 56)).setRow w.heap.size (crow vs nw S.es.length).toArray) w.heap.size S.es ∧ Below w.heap.size w ((w.alloc (.cells Z 56)).setRow w.heap.size (crow vs nw S.es.length).toArray)) := Lib.hid (by
    have h1 := setRow_heap (w.alloc (.cells Z 56)) w.heap.size Z (crow vs nw S.es.length).toArray _ _ HN.out
    have h2 : Below w.heap.size w ((w.alloc (.cells Z 56)).setRow w.heap.size (crow vs nw S.es.length).toArray) := hb.trans ⟨rfl, rfl, rfl, by simp [World.setRow], fun k hk => setRow_other _ _ k _ (by omega)⟩
    exact ⟨⟨⟨vs, nw, h1, hr.len, hr.lt, he.to (Agree.of_below h2)⟩, hr.lec, (Array.getElem?_eq_some_iff.1 h1).1⟩, h2⟩)
  have HZ := Lib.hid (cz_lit.trans hZ.symm)
  generalize (crow vs nw S.es.length).toArray = C at *
  clear h hr hr1 he hb hcy hZ
  go_enter Try.func23, Try.ntmps23
  go_wp2_with fail
  rw [HZ.out]
  go_wp2_with (first
    | (go_at_call 24; refine (CU.out).mono ?_; rintro e w1 ⟨rfl, rfl⟩)
    | (refine wpList_load_part (by rfl) 56 _ (by rfl) g 1 (by rfl) C _ HC.out Try.underlying56 rfl (by rw [HL.out]; exact cz_size) ?_)
    | (refine wpList_store_row (by rfl) 56 _ _ (by rfl) w.heap.size C (by rfl) (by rfl) _ Z HN.out (by rw [HL.out]; exact cz_size) (by rw [HL.out]; exact HZS.out) HONE.out ?_))
  go_ret
  exact ⟨rfl, FIN.out.1, FIN.out.2⟩
set_option maxRecDepth 1000000 in
set_option maxHeartbeats 4000000 in
theorem clone_any (w : World) (g : Nat) (S : KS) (h : RAt K w g S) : Calls Try.prog 17 #[.pointer (some ⟨g, 0, none⟩)] w fun e w' => e = .returned (.pointer (some ⟨w.heap.size, 0, none⟩)) ∧ RAt K w' w.heap.size S ∧ Below w.heap.size w w' := by
  obtain ⟨vs, nw, hr, he⟩ := h.row
  obtain ⟨Z, hZ⟩ : ∃ Z, Z = (Value.bool false :: (crow vs0 0 0 ++ [.int .i64 0])).toArray := ⟨_, rfl⟩
  have hb : Below w.heap.size w (w.alloc (.cells Z 58)) := (Below.refl _ _).alloc (Nat.le_refl _) _
  have CU := Lib.hid (usable_row _ g hr.cells.c0)
  have HR := Lib.hid hr.row
  have HL : Hid ((krow vs nw S.es.length S.pl).size = 64) := Lib.hid (krow_size hr.len _ _ _)
  have HN : Hid ((w.alloc (.cells Z 58)).heap[w.heap.size]? = some (.cells Z 58 (0, 0))) := Lib.hid (alloc_new _ _)
  have HZS : Hid (Z.size = 64) := Lib.hid (by rw [hZ]; exact krow_size (vs := vs0) List.length_replicate 0 0 0)
  have HONE : Hid ((krow vs nw S.es.length S.pl).all (·.oneCell') = true) := Lib.hid (by
    rw [← Array.all_toList]
    simp only [krow, crow, List.all_cons, List.all_append, Bool.and_eq_true]
    exact ⟨rfl, ⟨List.all_eq_true.2 hr.one, rfl, rfl, rfl⟩, rfl, rfl⟩)
  have FIN : Hid (RAt K ((w.alloc (.cells Z 58)).setRow w.heap.size (krow vs nw S.es.length S.pl)) w.heap.size S ∧ Below w.heap.size w ((w.alloc (.cells Z 58)).setRow w.heap.size (krow vs nw S.es.length S.pl))) := Lib.hid (by
    have h1 := setRow_heap (w.alloc (.cells Z 58)) w.heap.size Z (krow vs nw S.es.length S.pl) _ _ HN.out
    have h2 : Below w.heap.size w ((w.alloc (.cells Z 58)).setRow w.heap.size (krow vs nw S.es.length S.pl)) := hb.trans ⟨rfl, rfl, rfl, by simp [World.setRow], fun k hk => setRow_other _ _ k _ (by omega)⟩
    exact ⟨⟨⟨vs, nw, ⟨h1, hr.len, hr.lt, hr.lec, hr.one⟩, he.to (Agree.of_below h2)⟩, h.pl, (Array.getElem?_eq_some_iff.1 h1).1, fun hk => Nat.lt_irrefl _ (h.inw _ hk), fun k hk => Nat.lt_of_lt_of_le (h.inw k hk) h2.size⟩, h2⟩)
  have HZ := Lib.hid (rz_lit.trans hZ.symm)
  generalize krow vs nw S.es.length S.pl = C at *
  clear h hr he hb hZ
  go_enter Try.func17, Try.ntmps17
  go_wp2_with (first
    | (go_at_call 24; refine (CU.out).mono ?_; rintro e w1 ⟨rfl, rfl⟩)
    | (refine wpList_load_row (by rfl) 58 _ (by rfl) g (by rfl) _ C _ _ HR.out Try.underlying58 rfl (by rw [HL.out]; exact ring_size) ?_)
    | (rw [HZ.out]; refine wpList_store_row (by rfl) 58 _ _ (by rfl) w.heap.size C (by rfl) (by rfl) _ Z HN.out (by rw [HL.out]; exact ring_size) (by rw [HL.out]; exact HZS.out) HONE.out ?_))
  go_ret
  exact ⟨rfl, FIN.out.1, FIN.out.2⟩
end
/-- a ring that no call made -/
def NoneP (w : World) (q : Option Addr) : Prop := q = none ∨ ∃ z, q = some ⟨z, 0, none⟩ ∧ w.cell? ⟨z, 0, none⟩ = some (.bool false) ∧ z < w.heap.size
theorem NoneP.below {w w' : World} {q : Option Addr} (h : NoneP w q) (hb : Below w.heap.size w w') : NoneP w' q := by
  rcases h with h | ⟨z, h1, h2, h3⟩
  · exact .inl h
  · exact .inr ⟨z, h1, (hb.cell (p := ⟨z, 0, none⟩) h3).trans h2, Nat.lt_of_lt_of_le h3 hb.size⟩
set_option maxRecDepth 1000000 in
theorem usable_none (w : World) (q : Option Addr) (h : NoneP w q) : Calls Try.prog 24 #[.pointer q] w fun e w' => e = .returned (.bool false) ∧ w = w' := by
  rcases h with rfl | ⟨z, rfl, c1, _⟩
  all_goals
    go_enter Try.func24, Try.ntmps24
    go_wp2
    go_ret
    exact ⟨rfl, rfl⟩
set_option maxRecDepth 1000000 in
theorem kill_n (w : World) (q : Option Addr) (h : NoneP w q) (way v : Value) : Calls Try.prog 11 #[.pointer q, way, v] w fun e w' => e = .returned (.int .i64 2) ∧ w = w' := by
  have CU := Lib.hid (usable_none w q h)
  clear h
  go_enter Try.func11, Try.ntmps11
  go_wp2_with (go_at_call 24; refine (CU.out).mono ?_; rintro e w1 ⟨rfl, rfl⟩)
  go_ret
  exact ⟨rfl, rfl⟩
set_option maxRecDepth 1000000 in
theorem yank_n (w : World) (q : Option Addr) (h : NoneP w q) : Calls Try.prog 13 #[.pointer q] w fun e w' => e = .returned (.tuple #[.slice none 0 0, .int .i64 2]) ∧ w = w' := by
  have CU := Lib.hid (usable_none w q h)
  clear h
  go_enter Try.func13, Try.ntmps13
  go_wp2_with (go_at_call 24; refine (CU.out).mono ?_; rintro e w1 ⟨rfl, rfl⟩)
  go_ret2
  exact ⟨rfl, rfl⟩
set_option maxRecDepth 1000000 in
theorem len_n (w : World) (q : Option Addr) (h : NoneP w q) : Calls Try.prog 22 #[.pointer q] w fun e w' => e = .returned (.int .i64 0) ∧ w = w' := by
  have CU := Lib.hid (usable_none w q h)
  clear h
  go_enter Try.func22, Try.ntmps22
  go_wp2_with (go_at_call 24; refine (CU.out).mono ?_; rintro e w1 ⟨rfl, rfl⟩)
  go_ret
  exact ⟨rfl, rfl⟩
set_option maxRecDepth 1000000 in
theorem clone_n (w : World) (q : Option Addr) (h : NoneP w q) : Calls Try.prog 17 #[.pointer q] w fun e w' => e = .returned (.pointer none) ∧ w = w' := by
  have CU := Lib.hid (usable_none w q h)
  clear h
  go_enter Try.func17, Try.ntmps17
  go_wp2_with (go_at_call 24; refine (CU.out).mono ?_; rintro e w1 ⟨rfl, rfl⟩)
  go_ret
  exact ⟨rfl, rfl⟩
set_option maxRecDepth 1000000 in
theorem rotate_n (w : World) (q : Option Addr) (h : NoneP w q) (by' : Value) : Calls Try.prog 15 #[.pointer q, by'] w fun e w' => e = .returned (.tuple #[.slice none 0 0, .int .i64 2]) ∧ w = w' := by
  have CL := Lib.hid (len_n w q h)
  have CY := Lib.hid (yank_n w q h)
  clear h
  go_enter Try.func15, Try.ntmps15
  go_wp2_with (first
    | (go_at_call 22; refine (CL.out).mono ?_; rintro e w1 ⟨rfl, rfl⟩)
    | (go_at_call 13; refine (CY.out).mono ?_; rintro e w1 ⟨rfl, rfl⟩))
  go_ret2
  exact ⟨rfl, rfl⟩
set_option maxRecDepth 1000000 in
theorem all_n (w : World) (q : Option Addr) (h : NoneP w q) : Calls Try.prog 23 #[.pointer q] w fun e w' => e = .returned (.func (.func 34) #[] #[.pointer (some ⟨w.heap.size, 0, none⟩)]) ∧ CBox (fun _ => False) w' w.heap.size [] ∧ Below w.heap.size w w' := by
  obtain ⟨Z, hZ⟩ : ∃ Z, Z = (crow vs0 0 0).toArray := ⟨_, rfl⟩
  have hb : Below w.heap.size w (w.alloc (.cells Z 56)) := (Below.refl _ _).alloc (Nat.le_refl _) _
  have CU := Lib.hid (usable_none _ q (h.below hb))
  have hn : (w.alloc (.cells Z 56)).heap[w.heap.size]? = some (.cells Z 56 (0, 0)) := alloc_new _ _
  have FIN : Hid (CBox (fun _ => False) (w.alloc (.cells Z 56)) w.heap.size [] ∧ Below w.heap.size w (w.alloc (.cells Z 56))) := Lib.hid ⟨⟨⟨vs0, 0, by rw [hn, hZ]; rfl, List.length_replicate, by omega, fun i x hx => by simp at hx⟩, by simp, (Array.getElem?_eq_some_iff.1 hn).1⟩, hb⟩
  have HZ := Lib.hid (cz_lit.trans hZ.symm)
  clear h hb hZ hn
  go_enter Try.func23, Try.ntmps23
  go_wp2_with fail
  rw [HZ.out]
  go_wp2_with (first
    | (go_at_call 24; refine (CU.out).mono ?_; rintro e w1 ⟨rfl, rfl⟩))
  go_ret
  exact ⟨rfl, FIN.out.1, FIN.out.2⟩
end Go.Proofs.Ytknekldnipdpeaa
