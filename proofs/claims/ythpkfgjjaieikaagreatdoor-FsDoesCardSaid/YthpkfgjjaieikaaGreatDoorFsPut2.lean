/-
  What put of package simfs (Write and Append) returns and changes.
-/
import Derived.Test.YthpkfgjjaieikaaGreatDoorFsPut
import Derived.Deep.RegionLaw
namespace Go.Proofs.YthpkfgjjaieikaaGreatDoor
open Go.RowKit Go.Shelf Go.Lib Go.Maps

theorem info_byte : (Tryz.prog.info? 5).map (fun i => (i.zero, i.size, i.bytes)) = some (some (.int .u8 0), 1, 1) := by kernel_rfl

set_option maxRecDepth 100000 in
/-- an append of bytes to a file's row -/
theorem run_append_row (w : World) (ty : TypeId) (v : Value) (od : List UInt8) (hrow : Row w v od) (v2 : Value) (c : List UInt8) (hr : Reads w v2 c) (hl : od.length + c.length ≤ 4000000000) :
    ∃ v' w', (Builtin.append_ #[30, 30] ty #[v, v2]).run Tryz.prog w = .ok v' w' ∧ Row w' v' (od ++ c) ∧ w.grownBy w' v.ownBlock ∧ (v'.ownBlock = v.ownBlock ∨ v'.ownBlock = some w.heap.size) := by
  obtain ⟨i, hi, hz, hs, hb⟩ := info_parts info_byte
  obtain ⟨A, cap, rfl, h1, h2, h3⟩ := hr
  cases A with
  | none =>
    obtain rfl := h2 rfl
    obtain rfl : c = [] := List.eq_nil_of_length_eq_zero (by omega)
    refine ⟨v, w, ?_, by simpa using hrow, World.grownBy.refl w _, .inl rfl⟩
    rcases hrow.2 with ⟨rfl, h0⟩ | ⟨g, cap, cur, rfl, _, _, hn, _⟩
    · simp [Builtin.append_, run_underlying Tryz.underlying30, sizeOf, typeInfo, hi, Builtin.lenOf, Builtin.firstCells]
    · simp [Builtin.append_, run_underlying Tryz.underlying30, sizeOf, typeInfo, hi, Builtin.lenOf, Builtin.firstCells, hn, storeCells]
  | some ad =>
    obtain ⟨v', w', hrun, r1, r2, _, r4⟩ := run_append_own_at (P := Tryz.prog) w 0 30 ty 5 i (.int .u8 0) 1 1 Tryz.underlying30 hi hz hs hb rfl (by decide) v od.length (byteVals od) hrow ad c.length cap (byteVals c) (by rw [byteVals_length]; omega) (fun j u hu => by
        have hj : j < c.length := by have := (List.getElem?_eq_some_iff.1 hu).1; rwa [byteVals_length] at this
        obtain ⟨k, off, e, _, hc⟩ := h3 (by omega)
        injection e with e
        subst e
        have := hc j u hu
        unfold Addr.add
        split
        · next e0 => subst e0; exact this
        · exact this) (byteVals_one c) (by unfold maxLen; omega) (by omega) (Nat.zero_le _)
    refine ⟨v', w', hrun, ?_, r2, r4⟩
    show w'.ownsRow 0 5 1 v' (od ++ c).length (byteVals (od ++ c))
    rw [List.length_append, byteVals_append]
    exact r1

theorem step_append_row {ops : Array Oper} {o : Oper} {a : Act} {w : World} {K : Act → World → Prop} {Q : Exit → Act → World → Prop} {E : Prop} (hgd : o.guard = none) (s x : Operand)
    (ho : o.op = .call { callee := .builtin .append, args := #[s, x], argTypes := #[30, 30] }) (v : Value) (od : List UInt8) (hs : a.eval s = v) (hrow : Row w v od) (v2 : Value) (c : List UInt8) (hx : a.eval x = v2) (hr : Reads w v2 c) (hl : od.length + c.length ≤ 4000000000)
    (h : ∀ v' w', Row w' v' (od ++ c) → w.grownBy w' v.ownBlock → (v'.ownBlock = v.ownBlock ∨ v'.ownBlock = some w.heap.size) → K (a.put o.dst v') w') :
    if Region.wanted o (yielded ops a.tmps) = true then Oper.wp Tryz.prog o a w K Q else E := by
  have hw : Region.wanted o (yielded ops a.tmps) = true := by simp [Region.wanted, hgd]
  rw [if_pos hw]
  obtain ⟨v', w', hrun, r1, r2, r3⟩ := run_append_row w o.type v od hrow v2 c hr hl
  unfold Oper.wp
  simp [execOp, ho, resolve, invoke, builtin, hs, hx, hrun, Result.andThen]
  exact h v' w' r1 r2 r3

/-- the file's row in the map -/
theorem run_map_put (w : World) (bm : Nat) (es : List Ent) (x : Ent) (hown : w.ownsMap Tryz.prog 9 heldR bm es.length (toD es)) (hlen : es.length ≤ 1000000) (hk : keyOf Tryz.prog 9 (str x.path) = some (.string x.path)) :
    ∃ w', (Instr.mapUpdate 68 (.map (some bm)) (str x.path) x.val).run Tryz.prog w = .ok () w' ∧ w'.ownsMap Tryz.prog 9 heldR bm (putE x es).length (toD (putE x es)) ∧ w.grownBy w' (some bm) := by
  obtain ⟨w', hrun, r1, r2⟩ := hown.update law Tryz.underlying68 (by unfold maxLen; omega) hk (d := .held x.val) (ps := []) (val := x.val) rfl
  rw [toD_put] at r1
  have := map_tight r1
  rw [toD_size] at this
  exact ⟨w', hrun, this, r2⟩
theorem step_map_put {ops : Array Oper} {o : Oper} {a : Act} {w : World} {K : Act → World → Prop} {Q : Exit → Act → World → Prop} {E : Prop} (hgd : o.guard = none) (m y z : Operand)
    (ho : o.op = Op.mapUpdate 68 m y z) (bm : Nat) (es : List Ent) (x : Ent) (hm : a.eval m = .map (some bm)) (hy : a.eval y = str x.path) (hz : a.eval z = x.val) (hown : w.ownsMap Tryz.prog 9 heldR bm es.length (toD es)) (hlen : es.length ≤ 1000000) (hk : keyOf Tryz.prog 9 (str x.path) = some (.string x.path))
    (h : ∀ w', w'.ownsMap Tryz.prog 9 heldR bm (putE x es).length (toD (putE x es)) → w.grownBy w' (some bm) → K (a.put o.dst undef) w') :
    if Region.wanted o (yielded ops a.tmps) = true then Oper.wp Tryz.prog o a w K Q else E := by
  have hw : Region.wanted o (yielded ops a.tmps) = true := by simp [Region.wanted, hgd]
  rw [if_pos hw]
  obtain ⟨w', hrun, r1, r2⟩ := run_map_put w bm es x hown hlen hk
  unfold Oper.wp
  simp [execOp, ho, hm, hy, hz, hrun, Result.andThen]
  exact h w' r1 r2

/-- what put does: the error, what the file then holds, what is left -/
def putP (es : List Ent) (s : St) (p c : List UInt8) (more : Bool) : Int × Option (List UInt8) × St :=
  if (countP s (goodP p)).2.1 ≠ 0 then ((countP s (goodP p)).2.1, none, (countP s (goodP p)).2.2)
  else
    if checkP es p (((oldP es p more).length : Int) + c.length) ≠ 0 ∨ (countP s (goodP p)).1.2.1 = 1 then (orP (errnoP (countP s (goodP p)).1.2.1) (checkP es p (((oldP es p more).length : Int) + c.length)), none, (countP s (goodP p)).2.2)
    else (errnoP (countP s (goodP p)).1.2.1, some (oldP es p more ++ writtenP (countP s (goodP p)).1 c), (countP s (goodP p)).2.2)
where
  /-- what an append begins with -/
  oldP (es : List Ent) (p : List UInt8) (more : Bool) : List UInt8 := if more then (match findE es p with | some x => x.data | none => []) else []

/-- the files behind it -/
def PutEs (es : List Ent) (p : List UInt8) (d : Option (List UInt8)) (es' : List Ent) : Prop :=
  match d with
  | none => es' = es
  | some d => ∃ v, es' = putE ⟨p, v, d⟩ es
def PutPost (w : World) (FP : Nat → Prop) (b bm : Nat) (es : List Ent) (p : List UInt8) (r : Int × Option (List UInt8) × St) (e : Ending) (w' : World) : Prop :=
  ∃ es', e = .returned (.int .i64 r.1) ∧ FsAt w' (fun k => FP k ∨ w.heap.size ≤ k) b bm es' r.2.2 ∧ Touch FP w w' ∧ PutEs es p r.2.1 es'

theorem or_new (w : World) (x y : Int) : Calls Tryz.prog 158 #[.slice (some ⟨w.heap.size, 0, none⟩) 2 2] (w.alloc (.cells #[.int .i64 x, .int .i64 y] 42)) fun e w' => e = .returned (.int .i64 (orP x y)) ∧ w.alloc (.cells #[.int .i64 x, .int .i64 y] 42) = w' :=
  or_any _ _ x y (cell_of_row _ _ 0 _ _ _ (World.alloc_heap_new w _)) (cell_of_row _ _ 1 _ _ _ (World.alloc_heap_new w _))
/-- a box that was laid, behind steps that turned nothing that lay -/
theorem box_after {w w' : World} {o : Obj} (h : Below (w.alloc o).heap.size (w.alloc o) w') : w'.heap[w.heap.size]? = some o := (h.block _ (by simp)).trans (World.alloc_heap_new w o)
theorem FsAt.mixed {w w' : World} {FP : Nat → Prop} {b bm : Nat} {es : List Ent} {s : St} (h : FsAt w' FP b bm es s) (_ : w.heap.size ≤ w'.heap.size) : FsAt w' (fun k => FP k ∨ w.heap.size ≤ k) b bm es s := h.more fun _ hk => .inl hk
theorem touch_own {FP : Nat → Prop} {w w' : World} {b : Nat} (h : Touch (fun k => k = b) w w') (hb : FP b) : Touch FP w w' := h.mono fun _ _ e => e ▸ hb

set_option maxRecDepth 100000 in
set_option maxHeartbeats 1000000 in
theorem put_down (w : World) (FP : Nat → Prop) (b bm : Nat) (es : List Ent) (s : St) (p c : List UInt8) (v : Value) (more : Bool) (h : FsAt w FP b bm es s) (ho : StOk s) (hc : s.calls ≤ 4000000000000000000) (k : Int) (hk : k = 22 ∨ k = 23) (h1 : countP s (goodP p) = ((0, 0, 0), k, s)) :
    Calls Tryz.prog 89 #[.pointer (some ⟨b, 0, none⟩), str p, v, .bool more] w (PutPost w FP b bm es p (putP es s p c more)) := by
  have CG := Lib.hid (good_any p w)
  have CC := Lib.hid (fun (W : World) (hW : Below w.heap.size w W) => count_any W FP b bm es s (goodP p) (h.below hW) ho hc)
  have hP : putP es s p c more = (k, none, s) := by
    unfold putP
    rw [h1, if_pos (by show k ≠ 0; omega)]
  rw [h1] at CC
  have HP := Lib.hid hP
  have HO := Lib.hid h.own
  clear h ho hc h1 hP
  rcases hk with rfl | rfl
  all_goals
    go_enter Tryz.func89, Tryz.ntmps89
    go_wp2_with (first
      | (go_at_call 91; refine (CG.out).mono ?_; rintro e w1 ⟨rfl, hb1⟩)
      | (go_at_call 156; refine (CC.out _ hb1).mono ?_; rintro e w2 ⟨rfl, hF2, hT2⟩; have HF2 := Lib.hid hF2; have HT2 := Lib.hid hT2; clear hF2 hT2))
    go_ret
    rw [HP.out]
    exact ⟨es, rfl, (HF2.out.alloc _).more (fun _ h => .inl h), touch_own (((Touch.of_below hb1).trans HT2.out).trans (Touch.alloc _ _ _)) HO.out, rfl⟩

set_option maxRecDepth 100000 in
set_option maxHeartbeats 1000000 in
theorem write_err (w : World) (FP : Nat → Prop) (b bm : Nat) (es : List Ent) (s s1 : St) (p c : List UInt8) (v : Value) (h : FsAt w FP b bm es s) (ho : StOk s) (hc : s.calls ≤ 4000000000000000000) (x k y : Int) (h1 : countP s (goodP p) = ((x, k, y), 0, s1)) (hg : goodP p = true) (hv : Reads w v c) (hl : c.length ≤ 140737488355328)
    (he : checkP es p (((putP.oldP es p false).length : Int) + c.length) ≠ 0 ∨ k = 1) :
    Calls Tryz.prog 89 #[.pointer (some ⟨b, 0, none⟩), str p, v, .bool false] w (PutPost w FP b bm es p (putP es s p c false)) := by
  have CG := Lib.hid (good_any p w)
  have CC := Lib.hid (fun (W : World) (hW : Below w.heap.size w W) => count_any W FP b bm es s (goodP p) (h.below hW) ho hc)
  have hP : putP es s p c false = (orP (errnoP k) (checkP es p (((putP.oldP es p false).length : Int) + c.length)), none, s1) := by
    unfold putP
    rw [h1, if_neg (fun h => h rfl), if_pos he]
  rw [h1] at CC
  have HP := Lib.hid hP
  have HO := Lib.hid h.own
  have HK := Lib.hid (keyStr p (good_short' hg))
  have CK := Lib.hid (fun (W : World) (hW : FsAt W FP b bm es s1) => checkPut_any W FP b bm es s1 p (((putP.oldP es p false).length : Int) + c.length) hW (good_short' hg))
  generalize checkP es p (((putP.oldP es p false).length : Int) + c.length) = er at *
  obtain ⟨A, cap, rfl, _⟩ := hv
  have HS := Lib.hid (fun z hz => (h.files.small z hz).2)
  clear h ho hc h1 hP hg
  have hor : ((er != 0) = true) ∨ (er = 0 ∧ k = 1) := by
    by_cases h0 : er = 0
    · exact .inr ⟨h0, he.resolve_left (fun h => h h0)⟩
    · exact .inl (by simpa using h0)
  clear he
  have hod : (putP.oldP es p false).length = 0 := rfl
  rw [hod, show (((0 : Nat) : Int) + (c.length : Int)) = (c.length : Int) by omega] at CK
  clear hod
  rcases hor with hq | ⟨rfl, rfl⟩
  all_goals
    go_enter Tryz.func89, Tryz.ntmps89
    go_wp2_with (first
      | (go_at_call 91; refine (CG.out).mono ?_; rintro e w1 ⟨rfl, hb1⟩)
      | (go_at_call 156; refine (CC.out _ hb1).mono ?_; rintro e w2 ⟨rfl, hF2, hT2⟩; have HF2 := Lib.hid hF2; have HT2 := Lib.hid hT2; clear hF2 hT2)
      | (go_at_call 157; (with_reducible refine (CK.out _ (HF2.out.alloc _)).mono ?_); rintro e w3 ⟨rfl, hb3⟩; have hbk := box_after hb3; obtain ⟨d0, d1, d2, g0, g1, g2⟩ := three_cells hbk; clear hbk)
      | (go_at_call 159; refine (errno_any (_, _, _) _).mono ?_; rintro e w4 ⟨rfl, hb4⟩)
      | (go_at_call 158; refine (or_new _ _ _).mono ?_; rintro e w5 ⟨rfl, rfl⟩))
    go_ret
    rw [HP.out]
    exact ⟨es, rfl, ((((HF2.out.alloc _).below hb3).below hb4).alloc _).more (fun _ h => .inl h), touch_own (((((Touch.of_below hb1).trans HT2.out).trans (Touch.alloc _ _ _)).trans (Touch.of_below hb3)).trans ((Touch.of_below hb4).trans (Touch.alloc _ _ _))) HO.out, rfl⟩


/-- behind the append and the store into the map -/
theorem put_files {w w5 w6 w7 : World} {FP : Nat → Prop} {b bm : Nat} {es : List Ent} {s1 : St} {p d : List UInt8} {ov v' : Value} (h : FsAt w5 FP b bm es s1) (hws : w.heap.size ≤ w5.heap.size)
    (hov : (ov = .slice none 0 0) ∨ ∃ x ∈ es, x.path = p ∧ ov = x.val) (hg6 : w5.grownBy w6 ov.ownBlock) (hrow : Row w6 v' d) (hloc : v'.ownBlock = ov.ownBlock ∨ v'.ownBlock = some w5.heap.size)
    (hmap : w7.ownsMap Tryz.prog 9 heldR bm (putE ⟨p, v', d⟩ es).length (toD (putE ⟨p, v', d⟩ es))) (hg7 : w6.grownBy w7 (some bm)) (hp : p.length ≤ 1024) (hd : d.length ≤ 1048576) :
    FsAt w7 (fun k => FP k ∨ w.heap.size ≤ k) b bm (putE ⟨p, v', d⟩ es) s1 ∧ Touch (fun k => FP k ∨ w5.heap.size ≤ k) w5 w7 := by
  have hbm : bm < w5.heap.size := h.files.map.lt
  have hmapo : ∃ es' clock, w5.heap[bm]? = some (.map es' clock) := by obtain ⟨es', clock, hb, _⟩ := h.files.map; exact ⟨es', clock, hb⟩
  obtain ⟨es', clock, hbmo⟩ := hmapo
  -- a row's block is not the map's, nor the file system's
  have rowk : ∀ {W : World} {u : Value} {c : List UInt8}, Row W u c → ∀ k, u.ownBlock = some k → ∃ cur, W.heap[k]? = some (.cells cur 5 (0, 0)) := fun {W u c} hr k hk => by
    rcases hr.2 with ⟨h1, _⟩ | ⟨g, cap, cur, hv, _, hh, _⟩
    · rw [h1] at hk; cases hk
    · rw [hv] at hk; injection hk with hk; subst hk; exact ⟨cur, hh⟩
  have ovk : ∀ k, ov.ownBlock = some k → FP k ∧ k < w5.heap.size ∧ ∃ cur, w5.heap[k]? = some (.cells cur 5 (0, 0)) := fun k hk => by
    rcases hov with rfl | ⟨x, hx, _, rfl⟩
    · cases hk
    · exact ⟨(h.files.rows x hx).2 k hk, (h.files.rows x hx).1.block k hk, rowk (h.files.rows x hx).1 k hk⟩
  have nb : ∀ k, ov.ownBlock = some k → k ≠ bm ∧ k ≠ b := fun k hk => by
    obtain ⟨_, _, cur, hc⟩ := ovk k hk
    refine ⟨fun e => ?_, fun e => ?_⟩
    · subst e; rw [hbmo] at hc; cases hc
    · subst e; rw [h.cells] at hc; injection hc with hc; injection hc with _ hc _; exact absurd hc (by decide)
  have hbb : b ≠ bm := fun e => by subst e; have := h.cells; rw [hbmo] at this; cases this
  have same6 : ∀ k, k < w5.heap.size → ov.ownBlock ≠ some k → w6.heap[k]? = w5.heap[k]? := fun k hk hn => hg6.block k hk fun e => hn e.symm
  have same7 : ∀ k, k < w6.heap.size → k ≠ bm → w7.heap[k]? = w6.heap[k]? := fun k hk hn => hg7.block k hk fun e => hn (by injection e)
  have s56 := hg6.size
  -- the other files' rows
  have others : ∀ x ∈ es, x.path ≠ p → ∀ k, x.val.ownBlock = some k → k < w5.heap.size ∧ ov.ownBlock ≠ some k ∧ k ≠ bm := fun x hx hne k hk => by
    refine ⟨(h.files.rows x hx).1.block k hk, fun e => ?_, fun e => ?_⟩
    · rcases hov with rfl | ⟨y, hy, hyp, rfl⟩
      · cases e
      · rcases h.files.apart x hx y hy (by rw [hyp]; exact hne) with h1 | h1
        · rw [h1] at hk; cases hk
        · exact h1 (by rw [hk, e])
    · obtain ⟨cur, hc⟩ := rowk (h.files.rows x hx).1 k hk
      subst e; rw [hbmo] at hc; cases hc
  have newk : ∀ k, v'.ownBlock = some k → k < w6.heap.size ∧ k ≠ bm ∧ (FP k ∨ w.heap.size ≤ k) := fun k hk => by
    refine ⟨hrow.block k hk, ?_, ?_⟩
    · rcases hloc with e | e
      · exact (nb k (by rw [← e]; exact hk)).1
      · rw [hk] at e; injection e with e; omega
    · rcases hloc with e | e
      · exact .inl (ovk k (by rw [← e]; exact hk)).1
      · rw [hk] at e; injection e with e; right; omega
  refine ⟨⟨?_, .inl h.own, .inl h.ownm, ⟨hmap, ?_, ?_, ?_⟩⟩, ?_⟩
  · rw [same7 b (Nat.lt_of_lt_of_le h.lt s56) hbb, same6 b h.lt (fun e => (nb b e).2 rfl)]
    exact h.cells
  · intro x hx
    rcases mem_putE.1 hx with rfl | ⟨hx, hne⟩
    · exact ⟨hrow.same fun k hk => same7 k (newk k hk).1 (newk k hk).2.1, fun k hk => (newk k hk).2.2⟩
    · exact ⟨(h.files.rows x hx).1.same fun k hk => by
        obtain ⟨q1, q2, q3⟩ := others x hx hne k hk
        rw [same7 k (Nat.lt_of_lt_of_le q1 s56) q3, same6 k q1 q2], fun k hk => .inl ((h.files.rows x hx).2 k hk)⟩
  · have apartNew : ∀ x ∈ es, x.path ≠ p → x.val.ownBlock = none ∨ x.val.ownBlock ≠ v'.ownBlock := fun x hx hne => by
      cases hk : x.val.ownBlock with
      | none => exact .inl rfl
      | some k =>
        refine .inr fun e => ?_
        obtain ⟨q1, q2, _⟩ := others x hx hne k hk
        rcases hloc with e2 | e2
        · exact q2 (by rw [← e2, ← e])
        · rw [e2] at e; injection e with e; omega
    intro x hx y hy hne
    rcases mem_putE.1 hx with rfl | ⟨hx, hxp⟩ <;> rcases mem_putE.1 hy with rfl | ⟨hy, hyp⟩
    · exact absurd rfl hne
    · rcases apartNew y hy hyp with h1 | h1
      · cases hv : v'.ownBlock with
        | none => exact .inl rfl
        | some k => exact .inr (by show some k ≠ _; rw [h1]; simp)
      · exact .inr fun e => h1 e.symm
    · exact apartNew x hx hxp
    · exact h.files.apart x hx y hy hne
  · intro x hx
    rcases mem_putE.1 hx with rfl | ⟨hx, _⟩
    · exact ⟨hp, hd⟩
    · exact h.files.small x hx
  · exact (Touch.of_grown hg6 fun k hk => .inl (ovk k hk).1).trans ((Touch.of_grown hg7 fun k hk => by injection hk with hk; exact .inl (hk ▸ h.ownm)))

/-- the box of the fault and the file system, behind the append -/
theorem after_append {w5 w6 : World} {FP : Nat → Prop} {b bm k : Nat} {es : List Ent} {s : St} {x y z ov : Value} (h : FsAt w5 FP b bm es s) (hbk : w5.heap[k]? = some (.cells #[x, y, z] 70 (0, 0))) (hlt : k < w5.heap.size) (hg : w5.grownBy w6 ov.ownBlock)
    (hov : ∀ j, ov.ownBlock = some j → ∃ cur, w5.heap[j]? = some (.cells cur 5 (0, 0))) :
    w6.ownsMap Tryz.prog 9 heldR bm es.length (toD es) ∧ w6.cell? ⟨k, 0, none⟩ = some x ∧ w6.cell? ⟨k, 1, none⟩ = some y ∧ w6.cell? ⟨k, 2, none⟩ = some z ∧ w6.cell? ⟨b, 0, none⟩ = some (.map (some bm)) ∧ w6.heap[k]? = some (.cells #[x, y, z] 70 (0, 0)) := by
  have e1 : w6.heap[bm]? = w5.heap[bm]? := hg.block bm h.files.map.lt fun e => by
    obtain ⟨cur, hc⟩ := hov bm e.symm
    obtain ⟨es', clock, hb, _⟩ := h.files.map
    rw [hb] at hc; cases hc
  have e2 : w6.heap[b]? = w5.heap[b]? := hg.block b h.lt fun e => by
    obtain ⟨cur, hc⟩ := hov b e.symm
    rw [h.cells] at hc; injection hc with hc; injection hc with _ hc _; exact absurd hc (by decide)
  have e3 : w6.heap[k]? = w5.heap[k]? := hg.block k hlt fun e => by
    obtain ⟨cur, hc⟩ := hov k e.symm
    rw [hbk] at hc; injection hc with hc; injection hc with _ hc _; exact absurd hc (by decide)
  obtain ⟨a0, a1, a2, _⟩ := three_cells (e3.trans hbk)
  exact ⟨map_same h.files.map e1, a0, a1, a2, cell_of_row w6 b 0 _ _ _ (e2.trans h.cells), e3.trans hbk⟩
theorem after_store {w5 w6 w7 : World} {FP : Nat → Prop} {b bm k : Nat} {es : List Ent} {s : St} {x y z : Value} (hbk : w6.heap[k]? = some (.cells #[x, y, z] 70 (0, 0))) (hg : w6.grownBy w7 (some bm)) (h : FsAt w5 FP b bm es s) (hk5 : w5.heap[k]? = some (.cells #[x, y, z] 70 (0, 0))) :
    w7.cell? ⟨k, 0, none⟩ = some x ∧ w7.cell? ⟨k, 1, none⟩ = some y ∧ w7.cell? ⟨k, 2, none⟩ = some z := by
  have e3 : w7.heap[k]? = w6.heap[k]? := hg.block k (Array.getElem?_eq_some_iff.1 hbk).1 fun e => by
    injection e with e
    subst e
    obtain ⟨es', clock, hb, _⟩ := h.files.map
    rw [hb] at hk5; cases hk5
  obtain ⟨a0, a1, a2, _⟩ := three_cells (e3.trans hbk)
  exact ⟨a0, a1, a2⟩
theorem Touch.later' {FP : Nat → Prop} {w w5 w7 w8 : World} (h : Touch FP w w5) (ht : Touch (fun k => FP k ∨ w5.heap.size ≤ k) w5 w7) (hb : Below w7.heap.size w7 w8) : Touch FP w w8 :=
  (h.trans (ht.mono fun k hk hn => hn.resolve_right (by omega))).trans (Touch.of_below hb)
theorem FsAt.drew {w : World} {FP : Nat → Prop} {b bm : Nat} {es : List Ent} {s : St} (h : FsAt w FP b bm es s) : FsAt w.drew FP b bm es s := h.below (Below.refl _ _).drew

set_option maxRecDepth 100000 in
set_option maxHeartbeats 1000000 in
theorem write_ok (w : World) (FP : Nat → Prop) (b bm : Nat) (es : List Ent) (s s1 : St) (p c : List UInt8) (v : Value) (h : FsAt w FP b bm es s) (ho : StOk s) (hc : s.calls ≤ 4000000000000000000) (x k y : Int) (h1 : countP s (goodP p) = ((x, k, y), 0, s1)) (hg : goodP p = true) (hv : ∀ W, Touch FP w W → Reads W v c) (hl : c.length ≤ 140737488355328)
    (hy : 0 ≤ y) (hes : es.length ≤ 4096) (her : checkP es p (((putP.oldP es p false).length : Int) + c.length) = 0) (hk : k ≠ 1) :
    Calls Tryz.prog 89 #[.pointer (some ⟨b, 0, none⟩), str p, v, .bool false] w (PutPost w FP b bm es p (putP es s p c false)) := by
  have CG := Lib.hid (good_any p w)
  have CC := Lib.hid (fun (W : World) (hW : Below w.heap.size w W) => count_any W FP b bm es s (goodP p) (h.below hW) ho hc)
  have hP : putP es s p c false = (errnoP k, some (writtenP (x, k, y) c), s1) := by
    unfold putP
    rw [h1, if_neg (fun h => h rfl), if_neg (fun h => h.elim (fun h => h her) hk)]
    rfl
  rw [h1] at CC
  have HP := Lib.hid hP
  have HO := Lib.hid h.own
  have HK := Lib.hid (keyStr p (good_short' hg))
  have hod : (putP.oldP es p false).length = 0 := rfl
  rw [hod, show (((0 : Nat) : Int) + (c.length : Int)) = (c.length : Int) by omega] at her
  have CK := Lib.hid (fun (W : World) (hW : FsAt W FP b bm es s1) => checkPut_any W FP b bm es s1 p (c.length : Int) hW (good_short' hg))
  rw [her] at CK
  have hcl : c.length ≤ 1048576 := by
    unfold checkP at her
    split at her
    · simp at her
    · split at her
      · simp at her
      · omega
  have hwl : (writtenP (x, k, y) c).length ≤ 1048576 := by
    unfold writtenP
    split
    · exact hcl
    · rw [List.length_take]; omega
  have HWL := Lib.hid hwl
  have HV := Lib.hid hv
  have CW := Lib.hid (fun (W : World) (hW : Touch FP w W) => written_any (x, k, y) v c W (hv W hW) (by omega) hy)
  obtain ⟨A, cap, rfl, _⟩ := hv w (Touch.refl _ _)
  have HG := Lib.hid (goodP_len hg)
  have hk1 : (k == 1) = false := by simpa using hk
  clear h ho hc h1 hP hg hv hod her hcl hwl hk
  go_enter Tryz.func89, Tryz.ntmps89
  go_wp2_with (first
    | (go_at_call 91; refine (CG.out).mono ?_; rintro e w1 ⟨rfl, hb1⟩)
    | (go_at_call 156; refine (CC.out _ hb1).mono ?_; rintro e w2 ⟨rfl, hF2, hT2⟩; have HF2 := Lib.hid hF2; have HT2 := Lib.hid hT2; clear hF2 hT2)
    | (go_at_call 157; (with_reducible refine (CK.out _ (HF2.out.alloc _)).mono ?_); rintro e w3 ⟨rfl, hb3⟩; have hbk := box_after hb3; obtain ⟨d0, d1, d2, g0, g1, g2⟩ := three_cells hbk; have HBK := Lib.hid hbk; have hF3 := (HF2.out.alloc (.cells #[.int .i64 x, .int .i64 k, .int .i64 y] 70)).below hb3; have c3 := hF3.cell0; have HF3 := Lib.hid hF3; have HT3 := Lib.hid (touch_own (FP := FP) (((Touch.of_below hb1).trans HT2.out).trans ((Touch.alloc _ _ (.cells #[.int .i64 x, .int .i64 k, .int .i64 y] 70)).trans (Touch.of_below hb3))) HO.out); clear hbk hF3))
  go_region_law (first
    | (refine step_append_row rfl _ _ rfl (.slice none 0 0) [] rfl (World.ownsRow_nil _ _ _ _) v5 (writtenP (x, k, y) c) rfl HR5.out (by have := HWL.out; simp; omega) ?_; intro v6 w6 hrow6 hg6 hloc6; obtain ⟨hm6, e0, e1, e2, c6, hbk6⟩ := after_append HF5.out HBK5.out hsz5 hg6 (fun k e => by cases e); obtain ⟨w7, hrun7, hm7, hg7⟩ := run_map_put w6 bm es ⟨p, v6, writtenP (x, k, y) c⟩ hm6 (by omega) HK.out; have HROW6 := Lib.hid hrow6; have HG6 := Lib.hid hg6; have HLOC6 := Lib.hid hloc6; have HBK6 := Lib.hid hbk6; have HM7 := Lib.hid hm7; have HG7 := Lib.hid hg7; clear hrow6 hg6 hloc6 hm6 hbk6 hm7 hg7)
    | (go_simp; go_at_call 160; refine (CW.out _ HT3.out.drew).mono ?_; rintro e w5 ⟨v5, rfl, hr5, hb5⟩; have hF5 := HF3.out.drew.below hb5; have c5 := hF5.cell0; have hbk5 := (hb5.block w2.heap.size (by have := (Array.getElem?_eq_some_iff.1 HBK.out).1; exact this)).trans HBK.out; obtain ⟨x0, x1, x2, _, _, _⟩ := three_cells hbk5; have HF5 := Lib.hid hF5; have HR5 := Lib.hid hr5; have HBK5 := Lib.hid hbk5; have HB5 := Lib.hid hb5; have hsz5 : w2.heap.size < w5.heap.size := (Array.getElem?_eq_some_iff.1 hbk5).1; clear hF5 hr5 hbk5 hb5))
  all_goals
    obtain ⟨hF7, hT7⟩ := put_files (w := w) (p := p) HF5.out (by have := HT3.out.size; have := HB5.out.size; exact Nat.le_trans ‹_› ‹_›) (.inl rfl) HG6.out HROW6.out HLOC6.out HM7.out HG7.out HG.out HWL.out
    obtain ⟨y0, y1, y2⟩ := after_store HBK6.out HG7.out HF5.out HBK5.out
    have HF7 := Lib.hid hF7
    have HT7 := Lib.hid hT7
    clear hF7 hT7
    go_wp2_with (go_at_call 159; refine (errno_any (_, _, _) _).mono ?_; rintro e w8 ⟨rfl, hb8⟩)
    go_ret
    rw [HP.out]
    exact ⟨_, rfl, HF7.out.below hb8, (HT3.out.drew.trans (Touch.of_below HB5.out)).later' HT7.out hb8, _, rfl⟩

end Go.Proofs.YthpkfgjjaieikaaGreatDoor
