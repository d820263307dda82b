/-
  The source of an append, nil or not: slices that were cut out of a row of the call's own. No program is walked here, and nothing is assumed.
-/
import Derived.Test.YthpkfgjjaieikaaGreatDoorFsRefB
import Derived.Laws.AppendOwnNone
namespace Go.Proofs.YthpkfgjjaieikaaGreatDoor
open Go.RowKit Go.Shelf Go.Lib Go.Maps

/-- m elements that lie from A on hold the cells xs -/
structure Src (w : World) (size : Nat) (A : Option Addr) (c m : Nat) (xs : List Value) : Prop where
  len : xs.length = m * size
  nil : A = none → m = 0 ∧ c = 0
  cells : 0 < m → ∃ k off, A = some ⟨k, off, none⟩ ∧ k < w.heap.size ∧ ∀ j u, xs[j]? = some u → w.cell? ⟨k, off + j, none⟩ = some u
theorem Src.below {w w' : World} {size : Nat} {A : Option Addr} {c m : Nat} {xs : List Value} (h : Src w size A c m xs) (hb : Below w.heap.size w w') : Src w' size A c m xs := by
  refine ⟨h.len, h.nil, fun hm => ?_⟩
  obtain ⟨k, off, e, hk, hc⟩ := h.cells hm
  exact ⟨k, off, e, Nat.lt_of_lt_of_le hk hb.size, fun j u hu => (hb.cell (p := ⟨k, off + j, none⟩) hk).trans (hc j u hu)⟩
theorem add_off (k off j : Nat) : (⟨k, off, none⟩ : Addr).add j = ⟨k, off + j, none⟩ := by
  unfold Addr.add
  split
  · next h => subst h; rfl
  · rfl
/-- where the rest of a slice lies -/
def tailA (A : Option Addr) (cap i size : Nat) : Option Addr := if cap = i then A else A.map (·.add (i * size))
theorem own_form {w : World} {base size n : Nat} {e : TypeId} {v : Value} {xs : List Value} (h : w.ownsRow base e size v n xs) : ∃ A cap, v = .slice A n cap ∧ n ≤ cap ∧ (A = none → cap = 0) := by
  rcases h.2 with ⟨rfl, h0⟩ | ⟨g, cap, cur, rfl, _, _, hn, _⟩
  · exact ⟨none, 0, by rw [h0], by omega, fun _ => rfl⟩
  · exact ⟨some ⟨g, 0, none⟩, cap, rfl, hn, fun e => by cases e⟩
theorem own_head {w : World} {base size n cap i : Nat} {e : TypeId} {A : Option Addr} {xs : List Value} (h : w.ownsRow base e size (.slice A n cap) n xs) (hi : i ≤ n) : Src w size A cap i (xs.take (i * size)) := by
  have hl := h.1
  have hmul : i * size ≤ n * size := Nat.mul_le_mul_right _ hi
  rcases h.2 with ⟨e1, h0⟩ | ⟨g, cap', cur, e1, _, hg, hn, _, hs, ht⟩
  · injection e1 with e1 e2 e3
    subst e1 e3
    exact ⟨by rw [List.length_take]; omega, fun _ => ⟨by omega, rfl⟩, fun hm => by omega⟩
  · injection e1 with e1 e2 e3
    subst e1
    refine ⟨by rw [List.length_take]; omega, (fun e => by cases e), fun _ => ⟨g, 0, rfl, (Array.getElem?_eq_some_iff.1 hg).1, fun j u hu => ?_⟩⟩
    rw [Nat.zero_add, cell_of_row w g j cur _ (0, 0) hg]
    rw [List.getElem?_take] at hu
    split at hu
    · rw [← ht, List.getElem?_take] at hu
      split at hu
      · rw [← hu, Array.getElem?_toList]
      · cases hu
    · cases hu
theorem own_tail {w : World} {base size n cap i : Nat} {e : TypeId} {A : Option Addr} {xs : List Value} (h : w.ownsRow base e size (.slice A n cap) n xs) (hi : i ≤ n) : Src w size (tailA A cap i size) (cap - i) (n - i) (xs.drop (i * size)) := by
  have hl := h.1
  have hd : (xs.drop (i * size)).length = (n - i) * size := by rw [List.length_drop, hl, Nat.sub_mul]
  rcases h.2 with ⟨e1, h0⟩ | ⟨g, cap', cur, e1, _, hg, hn, _, hs, ht⟩
  · injection e1 with e1 e2 e3
    subst e1 e3
    exact ⟨hd, fun _ => ⟨by omega, by omega⟩, fun hm => by omega⟩
  · injection e1 with e1 e2 e3
    subst e1 e3
    refine ⟨hd, (fun e => ?_), fun hm => ⟨g, i * size, ?_, (Array.getElem?_eq_some_iff.1 hg).1, fun j u hu => ?_⟩⟩
    · unfold tailA at e
      split at e <;> simp at e
    · unfold tailA
      rw [if_neg (by omega)]
      simp [add_off]
    · rw [cell_of_row w g (i * size + j) cur _ (0, 0) hg]
      rw [List.getElem?_drop, ← ht, List.getElem?_take] at hu
      split at hu
      · rw [← hu, Array.getElem?_toList]
      · cases hu

theorem run_append_src {P : Program} (w : World) (base : Nat) (t ty e : TypeId) (i : TypeInfo) (z : Value) (size bytes : Nat) (ht : P.underlying t = some (.slice e)) (hi : P.info? e = some i) (hz : i.zero = some z)
    (hsize : i.size = size) (hby : i.bytes = bytes) (hzs : z.cells.size = size) (hsz : 0 < size)
    (v : Value) (n : Nat) (xs : List Value) (hown : w.ownsRow base e size v n xs) {A : Option Addr} {c m : Nat} {news : List Value} (hs : Src w size A c m news) (h1 : ∀ u ∈ news, u.oneCell' = true)
    (h63 : n + m ≤ maxLen) (hbytes : (n + m) * bytes ≤ 140737488355328) (hbase : base ≤ w.heap.size) :
    ∃ v' w', (Builtin.append_ #[t, t] ty #[v, .slice A m c]).run P w = .ok v' w' ∧ w'.ownsRow base e size v' (n + m) (xs ++ news) ∧ w.grownBy w' v.ownBlock ∧ (v'.ownBlock = v.ownBlock ∨ v'.ownBlock = some w.heap.size) := by
  cases A with
  | none =>
    obtain ⟨rfl, rfl⟩ := hs.nil rfl
    have hn : news = [] := List.eq_nil_of_length_eq_zero (by have := hs.len; omega)
    subst hn
    exact ⟨v, w, run_append_owned_none (P := P) (w := w) base t ty e i size ht hi v n xs hown, by simpa using hown, ⟨rfl, rfl, rfl, Nat.le_refl _, fun _ _ _ => rfl⟩, .inl rfl⟩
  | some a =>
    have hnews : ∀ j u, news[j]? = some u → w.cell? (a.add j) = some u := fun j u hu => by
      rcases Nat.eq_zero_or_pos m with h0 | h0
      · have hn : news = [] := List.eq_nil_of_length_eq_zero (by have := hs.len; rw [h0] at this; omega)
        rw [hn] at hu
        cases hu
      · obtain ⟨k, off, e1, _, hc⟩ := hs.cells h0
        injection e1 with e1
        subst e1
        rw [add_off]
        exact hc j u hu
    obtain ⟨v', w', hrun, h2, h3, _, h5⟩ := run_append_own_at (P := P) w base t ty e i z size bytes ht hi hz hsize hby hzs hsz v n xs hown a m c news hs.len hnews h1 h63 hbytes hbase
    exact ⟨v', w', hrun, h2, h3, h5⟩
/-- what an append to a row of later blocks leaves -/
theorem grown_below {w w' : World} {B : Nat} {row : Option Nat} (hg : w.grownBy w' row) (hB : B ≤ w.heap.size) (hr : ∀ k, row = some k → B ≤ k) : Below B w w' :=
  (Touch.of_grown (T := fun k => B ≤ k) hg hr).below hB fun _ h => h

theorem info_file : (Tryz.prog.info? 94).map (fun i => (i.zero, i.size, i.bytes)) = some (some (.agg #[.string ⟨#[]⟩, .slice none 0 0]), 2, 40) := by kernel_rfl
theorem info_u8 : (Tryz.prog.info? 5).map (fun i => (i.zero, i.size, i.bytes)) = some (some (.int .u8 0), 1, 1) := by kernel_rfl
/-- an append of files -/
theorem append_files (w : World) (base : Nat) (v : Value) (xs : List Ent) (hown : w.ownsRow base 94 2 v xs.length (fileVals xs)) {A : Option Addr} {c m : Nat} (ys : List Ent) (hm : ys.length = m) (hs : Src w 2 A c m (fileVals ys)) (h1 : ∀ x ∈ ys, x.val.oneCell' = true)
    (hsmall : xs.length + ys.length ≤ 10000) (hbase : base ≤ w.heap.size) (ty : TypeId) :
    ∃ v' w', (Builtin.append_ #[26, 26] ty #[v, .slice A m c]).run Tryz.prog w = .ok v' w' ∧ w'.ownsRow base 94 2 v' (xs ++ ys).length (fileVals (xs ++ ys)) ∧ w.grownBy w' v.ownBlock ∧ (v'.ownBlock = v.ownBlock ∨ v'.ownBlock = some w.heap.size) := by
  subst hm
  obtain ⟨i, hi, hz, hs2, hby⟩ := info_parts info_file
  obtain ⟨v', w', hr, h2, h3, h4⟩ := run_append_src (P := Tryz.prog) w base 26 ty 94 i _ 2 40 Tryz.underlying26 hi hz hs2 hby rfl (by decide) v xs.length (fileVals xs) hown hs (fileVals_one ys h1) (by unfold maxLen; omega) (by omega) hbase
  refine ⟨v', w', hr, ?_, h3, h4⟩
  rw [List.length_append, fileVals_append]
  exact h2
/-- an append of bytes -/
theorem append_bytes (w : World) (base : Nat) (v : Value) (xs : List UInt8) (hown : w.ownsRow base 5 1 v xs.length (byteVals xs)) {u : Value} (ys : List UInt8) (hr : Reads w u ys) (hsmall : xs.length + ys.length ≤ 140737488355328) (hbase : base ≤ w.heap.size) (ty : TypeId) :
    ∃ v' w', (Builtin.append_ #[30, 30] ty #[v, u]).run Tryz.prog w = .ok v' w' ∧ w'.ownsRow base 5 1 v' (xs ++ ys).length (byteVals (xs ++ ys)) ∧ w.grownBy w' v.ownBlock ∧ (v'.ownBlock = v.ownBlock ∨ v'.ownBlock = some w.heap.size) := by
  obtain ⟨A, cap, rfl, hcap, hnil, hc⟩ := hr
  obtain ⟨i, hi, hz, hs2, hby⟩ := info_parts info_u8
  obtain ⟨v', w', hr, h2, h3, h4⟩ := run_append_src (P := Tryz.prog) w base 30 ty 5 i _ 1 1 Tryz.underlying30 hi hz hs2 hby rfl (by decide) v xs.length (byteVals xs) hown (A := A) (c := cap) (m := ys.length) (news := byteVals ys)
    ⟨by rw [byteVals_length, Nat.mul_one], fun e => ⟨by have := hnil e; omega, hnil e⟩, fun hp => hc hp⟩ (byteVals_one ys) (by unfold maxLen; omega) (by omega) hbase
  refine ⟨v', w', hr, ?_, h3, h4⟩
  rw [List.length_append, byteVals_append]
  exact h2
/-- an append of texts -/
theorem append_texts (w : World) (base : Nat) (v : Value) (xs : List (List UInt8)) (hown : w.ownsRow base 9 1 v xs.length (xs.map str)) {A : Option Addr} {c m : Nat} (ys : List (List UInt8)) (hm : ys.length = m) (hs : Src w 1 A c m (ys.map str)) (hsmall : xs.length + ys.length ≤ 1000000) (hbase : base ≤ w.heap.size) (ty : TypeId) :
    ∃ v' w', (Builtin.append_ #[80, 80] ty #[v, .slice A m c]).run Tryz.prog w = .ok v' w' ∧ w'.ownsRow base 9 1 v' (xs ++ ys).length ((xs ++ ys).map str) ∧ w.grownBy w' v.ownBlock ∧ (v'.ownBlock = v.ownBlock ∨ v'.ownBlock = some w.heap.size) := by
  subst hm
  obtain ⟨i, hi, hz, hs2, hby⟩ := info_parts info_string
  obtain ⟨v', w', hr, h2, h3, h4⟩ := run_append_src (P := Tryz.prog) w base 80 ty 9 i _ 1 16 Tryz.underlying80 hi hz hs2 hby rfl (by decide) v xs.length (xs.map str) hown hs (fun u hu => by obtain ⟨x, _, rfl⟩ := List.mem_map.1 hu; rfl) (by unfold maxLen; omega) (by omega) hbase
  refine ⟨v', w', hr, ?_, h3, h4⟩
  rw [List.length_append, List.map_append]
  exact h2

/-- 's[:h]' and 's[l:]' -/
theorem slice_head {P : Program} (t e : TypeId) (ht : P.underlying t = some (.slice e)) (size : Nat) (hz : ∀ w, (Go.sizeOf e).run P w = .ok size w) (A : Option Addr) (n cap h : Nat) (hh : h ≤ cap) (W : World) :
    (Instr.slice t (.slice A n cap) none (some (.int .i64 (h : Int))) none).run P W = .ok (.slice A h cap) W := by
  have ht' : P.underlying t = some (.slice (P.elem t)) := by simp [Program.elem, ht]
  have he : P.elem t = e := by simp [Program.elem, ht]
  rw [run_slice_h W t _ _ _ ht' .i64 _ (by omega) (by omega), he, hz]
  by_cases h0 : cap = 0
  · simp [Result.andThen, sliced, h0]
  · cases A with
    | none => simp [Result.andThen, sliced]
    | some a =>
      have : a.add 0 = a := by cases a; simp [Addr.add]
      simp [Result.andThen, sliced, this]
theorem slice_tail {P : Program} (t e : TypeId) (ht : P.underlying t = some (.slice e)) (size : Nat) (hz : ∀ w, (Go.sizeOf e).run P w = .ok size w) (A : Option Addr) (n cap l : Nat) (hl : l ≤ n) (W : World) :
    (Instr.slice t (.slice A n cap) (some (.int .i64 (l : Int))) none none).run P W = .ok (.slice (tailA A cap l size) (n - l) (cap - l)) W := by
  have ht' : P.underlying t = some (.slice (P.elem t)) := by simp [Program.elem, ht]
  have he : P.elem t = e := by simp [Program.elem, ht]
  rw [run_slice_l W t _ _ _ ht' .i64 _ (by omega) (by omega), he, hz]
  simp [Result.andThen, sliced, tailA]
/-- at the operation -/
theorem wpList_append_run {P : Program} {ops : Array Oper} {rest : List Oper} {o : Oper} {a : Act} {Q : Exit → Act → World → Prop} {w w' : World} {t ty : TypeId} {u1 u2 v' : Value} (hrun : (Builtin.append_ #[t, t] ty #[u1, u2]).run P w = .ok v' w') (hgd : o.guard = none) (s x : Operand)
    (ho : o.op = .call { callee := .builtin .append, args := #[s, x], argTypes := #[t, t] }) (hty : o.type = ty) (hs : a.eval s = u1) (hx : a.eval x = u2) (h : wpList P ops Q rest (a.put o.dst v') w') : wpList P ops Q (o :: rest) a w := by
  refine wpList_plain hgd fun K hK => ?_
  unfold Oper.wp execOp
  simp only [ho, resolve, invoke, builtin, Sem.run_bind, Sem.run_pure, Result.andThen_ok, List.map_toArray, List.map_cons, List.map_nil, hs, hx, hty, hrun]
  exact hK _ _ h
theorem step_append_run {P : Program} {ops : Array Oper} {o : Oper} {a : Act} {K : Act → World → Prop} {Q : Exit → Act → World → Prop} {E : Prop} {w w' : World} {t ty : TypeId} {u1 u2 v' : Value} (hrun : (Builtin.append_ #[t, t] ty #[u1, u2]).run P w = .ok v' w') (hgd : o.guard = none) (s x : Operand)
    (ho : o.op = .call { callee := .builtin .append, args := #[s, x], argTypes := #[t, t] }) (hty : o.type = ty) (hs : a.eval s = u1) (hx : a.eval x = u2) (h : K (a.put o.dst v') w') :
    if Region.wanted o (yielded ops a.tmps) = true then Oper.wp P o a w K Q else E := by
  have hw : Region.wanted o (yielded ops a.tmps) = true := by simp [Region.wanted, hgd]
  rw [if_pos hw]
  unfold Oper.wp execOp
  simp only [ho, resolve, invoke, builtin, Sem.run_bind, Sem.run_pure, Result.andThen_ok, List.map_toArray, List.map_cons, List.map_nil, hs, hx, hty, hrun]
  exact h
theorem wpList_slice_run {P : Program} {ops : Array Oper} {rest : List Oper} {o : Oper} {a : Act} {Q : Exit → Act → World → Prop} {w : World} {t e : TypeId} {u v' : Value} {lo hi : Option Value} (hrun : ∀ W, (Instr.slice t u lo hi none).run P W = .ok v' W) (ht : P.underlying t = some (.slice e)) (hgd : o.guard = none) (x : Operand) (l h : Option Operand)
    (ho : o.op = Op.slice t x l h none) (hx : a.eval x = u) (hl : l.map a.eval = lo) (hh : h.map a.eval = hi) (hK : wpList P ops Q rest (a.put o.dst v') w) : wpList P ops Q (o :: rest) a w := by
  refine wpList_plain hgd fun K hk => ?_
  have ht' : P.underlying t = some (.slice (P.elem t)) := by simp [Program.elem, ht]
  unfold Oper.wp execOp
  simp only [ho, hx, hl, hh, Option.map_none, run_sliceAt_slice w t _ _ _ _ ht', Sem.run_bind, Sem.run_pure, Result.andThen_ok, hrun]
  exact hk _ _ hK
theorem size_file (w : World) : (Go.sizeOf 94).run Tryz.prog w = .ok 2 w := by kernel_rfl
theorem size_string (w : World) : (Go.sizeOf 9).run Tryz.prog w = .ok 1 w := by kernel_rfl

theorem own_kind {w : World} {base size n b : Nat} {e t : TypeId} {v : Value} {xs : List Value} {cur : Array Value} (h : w.ownsRow base e size v n xs) (hb : w.heap[b]? = some (.cells cur t (0, 0))) (hne : e ≠ t) : v.ownBlock ≠ some b := by
  intro he
  rcases h.2 with ⟨rfl, _⟩ | ⟨g, cap, cur', rfl, _, hg, _⟩
  · cases he
  · injection he with he
    subst he
    rw [show w.heap[g]? = _ from hg] at hb
    injection hb with hb
    injection hb with _ hb _
    exact hne hb
theorem fileVals_set {fs : List Ent} {i : Nat} {x y : Ent} (hx : fs[i]? = some x) (hp : y.path = x.path) : fileVals (fs.set i y) = (fileVals fs).set (i * 2 + 1) y.val := by
  induction fs generalizing i with
  | nil => simp at hx
  | cons z r ih =>
    cases i with
    | zero =>
      simp at hx
      subst hx
      show str y.path :: y.val :: fileVals r = (str z.path :: z.val :: fileVals r).set 1 y.val
      rw [hp]
      rfl
    | succ i =>
      show str z.path :: z.val :: fileVals (r.set i y) = (str z.path :: z.val :: fileVals r).set ((i + 1) * 2 + 1) y.val
      rw [ih (by simpa using hx), show (i + 1) * 2 + 1 = i * 2 + 1 + 1 + 1 by omega]
      rfl
section
variable {w : World} {FR : Nat → Prop} {rb : Nat} {v : Value} {fs : List Ent} {r : RSt}
/-- another list, out of the old files and new ones without bytes -/
theorem RefV.relist (h : RefV w FR rb v fs r) {w2 : World} {v2 : Value} {fs2 : List Ent} (hB : Below w.heap.size w w2) (hown : w2.ownsRow w.heap.size 94 2 v2 fs2.length (fileVals fs2))
    (hsub : ∀ x ∈ fs2, x ∈ fs ∨ (x.val = .slice none 0 0 ∧ x.data = [] ∧ x.path.length ≤ 1024)) (hl : fs2.length ≤ 4096) : RefV (w2.setCell ⟨rb, 0, none⟩ v2) (fun k => FR k ∨ w.heap.size ≤ k) rb v2 fs2 r := by
  have hlt := h.lt
  have hc2 : w2.heap[rb]? = some (.cells (refCells v r) 28 (0, 0)) := (hB.block rb hlt).trans h.cells
  refine ⟨heap_setCell_same w2 rb 0 _ _ _ hc2, own_base (base := 0) (ownsRow_setCell_below hown (a := ⟨rb, 0, none⟩) hlt _) (Nat.zero_le _), .inl h.own, fun k hk => .inr (hown.lt k hk).1, fun x hx => ?_, fun x hx => ?_, hl⟩
  · rcases hsub x hx with hx' | ⟨e1, e2, _⟩
    · have hr := (h.datas x hx').1.same fun k hk => hB.block k ((h.datas x hx').1.block k hk)
      exact ⟨ownsRow_setCell_other hr (a := ⟨rb, 0, none⟩) (own_kind hr hc2 (by decide)) _, fun k hk => .inl ((h.datas x hx').2 k hk)⟩
    · rw [e1, e2]
      exact ⟨World.ownsRow_nil _ _ _ _, fun k hk => by cases hk⟩
  · rcases hsub x hx with hx' | ⟨_, e2, e3⟩
    · exact h.small x hx'
    · rw [e2]; exact ⟨e3, by simp⟩
/-- other bytes for a file -/
theorem RefV.store (h : RefV w FR rb v fs r) {w1 : World} {dv : Value} {c : List UInt8} {i : Nat} {x : Ent} (hx : fs[i]? = some x) (hB : Below w.heap.size w w1) (hd : w1.ownsRow w.heap.size 5 1 dv c.length (byteVals c)) (hc : c.length ≤ 1048576)
    {g n cap : Nat} (hv : v = .slice (some ⟨g, 0, none⟩) n cap) : RefV (w1.setCell ⟨g, i * 2 + 1, none⟩ dv) (fun k => FR k ∨ w.heap.size ≤ k) rb v (fs.set i ⟨x.path, dv, c⟩) r ∧ FR g := by
  have hFR : FR g := h.ownv g (by rw [hv]; rfl)
  refine ⟨?_, hFR⟩
  have hlt := h.lt
  have hc1 : w1.heap[rb]? = some (.cells (refCells v r) 28 (0, 0)) := (hB.block rb hlt).trans h.cells
  obtain ⟨hl, hrow⟩ := h.row
  rcases hrow with ⟨e, _⟩ | ⟨g', cap', cur, hv', hg0, hg, hn, hmax, hsz, htk⟩
  · rw [hv] at e; cases e
  rw [hv] at hv'
  injection hv' with e1 e2 e3
  injection e1 with e1
  injection e1 with e1
  subst e1 e2 e3
  have hgl : g < w.heap.size := (Array.getElem?_eq_some_iff.1 hg).1
  have hg1 : w1.heap[g]? = some (.cells cur 94 (0, 0)) := (hB.block g hgl).trans hg
  have hne : rb ≠ g := fun e => by
    rw [e, hg1] at hc1
    injection hc1 with hc1
    injection hc1 with _ hc1 _
    revert hc1
    decide
  have hil : i < fs.length := (List.getElem?_eq_some_iff.1 hx).1
  refine ⟨(Below.heap_setCell w1 _ dv rb hne).trans hc1, ⟨?_, ?_⟩, .inl h.own, fun k hk => .inl (h.ownv k hk), fun y hy => ?_, fun y hy => ?_, ?_⟩
  · rw [fileVals_length]
  · refine .inr ⟨g, cap, cur.set! (i * 2 + 1) dv, by rw [hv, List.length_set], hg0, heap_setCell_same w1 g (i * 2 + 1) _ _ _ hg1, by rw [List.length_set]; exact hn, hmax, by simpa using hsz, ?_⟩
    rw [fileVals_set (y := ⟨x.path, dv, c⟩) hx rfl, ← htk, List.length_set]
    simp only [Array.set!_eq_setIfInBounds, Array.toList_setIfInBounds]
    rw [List.take_set]
  · rcases List.mem_or_eq_of_mem_set hy with hy | rfl
    · have hr := (h.datas y hy).1.same fun k hk => hB.block k ((h.datas y hy).1.block k hk)
      exact ⟨ownsRow_setCell_other hr (a := ⟨g, i * 2 + 1, none⟩) (own_kind hr hg1 (by decide)) _, fun k hk => .inl ((h.datas y hy).2 k hk)⟩
    · exact ⟨own_base (base := 0) (ownsRow_setCell_below hd (a := ⟨g, i * 2 + 1, none⟩) hgl _) (Nat.zero_le _), fun k hk => .inr (hd.lt k hk).1⟩
  · rcases List.mem_or_eq_of_mem_set hy with hy | rfl
    · exact h.small y hy
    · exact ⟨(h.small x (List.mem_of_getElem? hx)).1, hc⟩
  · rw [List.length_set]; exact h.short
end

end Go.Proofs.YthpkfgjjaieikaaGreatDoor
