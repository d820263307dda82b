/-
  The document's file system in memory: its list of files, its numbers, and what keeps them; what its calls that only look return. Nothing is assumed.
-/
import Derived.Test.YthpkfgjjaieikaaGreatDoorFsRef
import Derived.Test.YthpkfgjjaieikaaGreatDoorFsDoesQ
namespace Go.Proofs.YthpkfgjjaieikaaGreatDoor
open Go.RowKit Go.Shelf Go.Lib Go.Maps

def refCells (v : Value) (r : RSt) : Array Value := #[v, .int .i64 r.count, .int .i64 r.kind, .int .i64 r.keep, .int .i64 r.calls, .bool r.down]
def fileVals (fs : List Ent) : List Value := fs.flatMap fun x => [str x.path, x.val]
/-- the document's file system at block rb, its list in the slice v: its blocks are of FR -/
structure RefV (w : World) (FR : Nat → Prop) (rb : Nat) (v : Value) (fs : List Ent) (r : RSt) : Prop where
  cells : w.heap[rb]? = some (.cells (refCells v r) 28 (0, 0))
  row : w.ownsRow 0 94 2 v fs.length (fileVals fs)
  own : FR rb
  ownv : ∀ k, v.ownBlock = some k → FR k
  datas : ∀ x ∈ fs, Row w x.val x.data ∧ ∀ k, x.val.ownBlock = some k → FR k
  small : ∀ x ∈ fs, x.path.length ≤ 1024 ∧ x.data.length ≤ 1048576
  short : fs.length ≤ 4096

theorem fileVals_length (fs : List Ent) : (fileVals fs).length = fs.length * 2 := by
  induction fs with
  | nil => rfl
  | cons x r ih =>
    show (str x.path :: x.val :: fileVals r).length = _
    simp only [List.length_cons, ih]
    omega
theorem fileVals_at (fs : List Ent) : ∀ (k : Nat) (x : Ent), fs[k]? = some x → (fileVals fs)[k * 2]? = some (str x.path) ∧ (fileVals fs)[k * 2 + 1]? = some x.val := by
  induction fs with
  | nil => intro k x h; simp at h
  | cons y r ih =>
    intro k x h
    have e : fileVals (y :: r) = str y.path :: y.val :: fileVals r := rfl
    rw [e]
    cases k with
    | zero =>
      simp at h
      subst h
      exact ⟨rfl, rfl⟩
    | succ k =>
      have := ih k x (by simpa using h)
      rw [show (k + 1) * 2 = k * 2 + 1 + 1 by omega]
      simpa using this
theorem fileVals_append (a b : List Ent) : fileVals (a ++ b) = fileVals a ++ fileVals b := by simp [fileVals]
theorem fileVals_one (fs : List Ent) (h : ∀ x ∈ fs, x.val.oneCell' = true) : ∀ u ∈ fileVals fs, u.oneCell' = true := by
  intro u hu
  obtain ⟨x, hx, hu⟩ := List.mem_flatMap.1 hu
  simp at hu
  rcases hu with rfl | rfl
  · rfl
  · exact h x hx
theorem fileVals_take (fs : List Ent) (n : Nat) : fileVals (fs.take n) = (fileVals fs).take (n * 2) := by
  induction fs generalizing n with
  | nil => simp [fileVals]
  | cons y r ih =>
    cases n with
    | zero => simp [fileVals]
    | succ n =>
      rw [List.take_succ_cons]
      show str y.path :: y.val :: fileVals (r.take n) = (str y.path :: y.val :: fileVals r).take ((n + 1) * 2)
      rw [show (n + 1) * 2 = n * 2 + 1 + 1 by omega, List.take_succ_cons, List.take_succ_cons, ih]
theorem fileVals_drop (fs : List Ent) (n : Nat) : fileVals (fs.drop n) = (fileVals fs).drop (n * 2) := by
  induction fs generalizing n with
  | nil => simp [fileVals]
  | cons y r ih =>
    cases n with
    | zero => simp [fileVals]
    | succ n =>
      rw [List.drop_succ_cons]
      show fileVals (r.drop n) = (str y.path :: y.val :: fileVals r).drop ((n + 1) * 2)
      rw [show (n + 1) * 2 = n * 2 + 1 + 1 by omega, List.drop_succ_cons, List.drop_succ_cons, ih]

section
variable {w : World} {FR : Nat → Prop} {rb : Nat} {v : Value} {fs : List Ent} {r : RSt}
theorem RefV.lt (h : RefV w FR rb v fs r) : rb < w.heap.size := (Array.getElem?_eq_some_iff.1 h.cells).1
theorem RefV.cell0 (h : RefV w FR rb v fs r) : w.cell? ⟨rb, 0, none⟩ = some v := cell_of_row w rb 0 _ _ _ h.cells
theorem RefV.cell1 (h : RefV w FR rb v fs r) : w.cell? ⟨rb, 1, none⟩ = some (.int .i64 r.count) := cell_of_row w rb 1 _ _ _ h.cells
theorem RefV.cell2 (h : RefV w FR rb v fs r) : w.cell? ⟨rb, 2, none⟩ = some (.int .i64 r.kind) := cell_of_row w rb 2 _ _ _ h.cells
theorem RefV.cell3 (h : RefV w FR rb v fs r) : w.cell? ⟨rb, 3, none⟩ = some (.int .i64 r.keep) := cell_of_row w rb 3 _ _ _ h.cells
theorem RefV.cell4 (h : RefV w FR rb v fs r) : w.cell? ⟨rb, 4, none⟩ = some (.int .i64 r.calls) := cell_of_row w rb 4 _ _ _ h.cells
theorem RefV.cell5 (h : RefV w FR rb v fs r) : w.cell? ⟨rb, 5, none⟩ = some (.bool r.down) := cell_of_row w rb 5 _ _ _ h.cells
theorem RefV.frozen (h : RefV w FR rb v fs r) (i : Nat) : w.frozen? ⟨rb, i, none⟩ = false := frozen_of_row w rb i _ _ h.cells
/-- the slice, and a file's cells -/
theorem RefV.form (h : RefV w FR rb v fs r) : ∃ A cap, v = .slice A fs.length cap ∧ fs.length ≤ cap ∧ (A = none → cap = 0) ∧ ∀ k x, fs[k]? = some x → ∃ g, A = some ⟨g, 0, none⟩ ∧ g < w.heap.size ∧ w.cell? ⟨g, k * 2, none⟩ = some (str x.path) ∧ w.cell? ⟨g, k * 2 + 1, none⟩ = some x.val ∧ w.frozen? ⟨g, k * 2 + 1, none⟩ = false := by
  rcases h.row.2 with ⟨rfl, h0⟩ | ⟨g, cap, cur, rfl, _, hg, hn, _, hs, ht⟩
  · exact ⟨none, 0, by rw [h0], by omega, fun _ => rfl, fun k x hx => by have := (List.getElem?_eq_some_iff.1 hx).1; omega⟩
  · refine ⟨some ⟨g, 0, none⟩, cap, rfl, hn, (fun e => by cases e), fun k x hx => ⟨g, rfl, (Array.getElem?_eq_some_iff.1 hg).1, ?_, ?_, frozen_of_row w g _ _ _ hg⟩⟩
    all_goals
      obtain ⟨a, b⟩ := fileVals_at fs k _ hx
    · refine (cell_of_row w g (k * 2) cur _ (0, 0) hg).trans ?_
      · rw [← ht, List.getElem?_take] at a
        split at a
        · rw [← a, Array.getElem?_toList]
        · cases a
    · refine (cell_of_row w g (k * 2 + 1) cur _ (0, 0) hg).trans ?_
      · rw [← ht, List.getElem?_take] at b
        split at b
        · rw [← b, Array.getElem?_toList]
        · cases b
theorem RefV.same {w' : World} (h : RefV w FR rb v fs r) (hb : ∀ k, k < w.heap.size → FR k → w'.heap[k]? = w.heap[k]?) : RefV w' FR rb v fs r := by
  refine ⟨(hb rb h.lt h.own).trans h.cells, ?_, h.own, h.ownv, fun x hx => ⟨(h.datas x hx).1.same fun k hk => hb k ((h.datas x hx).1.block k hk) ((h.datas x hx).2 k hk), (h.datas x hx).2⟩, h.small, h.short⟩
  obtain ⟨h1, h2⟩ := h.row
  refine ⟨h1, ?_⟩
  rcases h2 with h2 | ⟨g, cap, cur, hv, hg, hh, rr⟩
  · exact .inl h2
  · exact .inr ⟨g, cap, cur, hv, hg, (hb g (Array.getElem?_eq_some_iff.1 hh).1 (h.ownv g (by rw [hv]; rfl))).trans hh, rr⟩
theorem RefV.more {FR' : Nat → Prop} (h : RefV w FR rb v fs r) (hP : ∀ k, FR k → FR' k) : RefV w FR' rb v fs r :=
  ⟨h.cells, h.row, hP _ h.own, fun k hk => hP k (h.ownv k hk), fun x hx => ⟨(h.datas x hx).1, fun k hk => hP k ((h.datas x hx).2 k hk)⟩, h.small, h.short⟩
theorem RefV.below {w' : World} (h : RefV w FR rb v fs r) (hb : Below w.heap.size w w') : RefV w' FR rb v fs r := h.same fun k hk _ => hb.block k hk
/-- its own cells turn, its list stays -/
theorem RefV.turn {w' : World} {r' : RSt} (h : RefV w FR rb v fs r) (hc : w'.heap[rb]? = some (.cells (refCells v r') 28 (0, 0))) (hb : ∀ k, k < w.heap.size → k ≠ rb → w'.heap[k]? = w.heap[k]?) : RefV w' FR rb v fs r' := by
  have hne : ∀ k cur (e : TypeId), e ≠ 28 → w.heap[k]? = some (.cells cur e (0, 0)) → k ≠ rb := fun k cur e he hk hkr => by
    rw [hkr, h.cells] at hk
    injection hk with hk
    injection hk with _ hk _
    exact he hk.symm
  refine ⟨hc, ?_, h.own, h.ownv, fun x hx => ⟨?_, (h.datas x hx).2⟩, h.small, h.short⟩
  · obtain ⟨h1, h2⟩ := h.row
    refine ⟨h1, ?_⟩
    rcases h2 with h2 | ⟨g, cap, cur, hv, hg, hh, rr⟩
    · exact .inl h2
    · exact .inr ⟨g, cap, cur, hv, hg, (hb g (Array.getElem?_eq_some_iff.1 hh).1 (hne _ _ _ (by decide) hh)).trans hh, rr⟩
  · obtain ⟨h1, h2⟩ := (h.datas x hx).1
    refine ⟨h1, ?_⟩
    rcases h2 with h2 | ⟨g, cap, cur, hv, hg, hh, rr⟩
    · exact .inl h2
    · exact .inr ⟨g, cap, cur, hv, hg, (hb g (Array.getElem?_eq_some_iff.1 hh).1 (hne _ _ _ (by decide) hh)).trans hh, rr⟩
theorem RefV.set (h : RefV w FR rb v fs r) (i : Nat) (u : Value) {r' : RSt} (hr : (refCells v r).set! i u = refCells v r') : RefV (w.setCell ⟨rb, i, none⟩ u) FR rb v fs r' := by
  refine h.turn ?_ fun k _ hk => Below.heap_setCell w _ u k (fun e => hk e)
  rw [← hr]
  exact heap_setCell_same w rb i _ _ _ h.cells
end

theorem refBelow_any (p d : List UInt8) (w : World) (hp : p.length ≤ maxLen) (hd : d.length ≤ maxLen) :
    Calls Tryz.prog 165 #[str p, str d] w fun e w' => e = .returned (.bool (belowR d p)) ∧ w = w' := by
  unfold maxLen at hp hd
  by_cases h1 : d = [47]
  · subst h1
    have HB := Lib.hid (show belowR [47] p = true by simp [belowR])
    go_enter Tryz.func165, Tryz.ntmps165
    go_wp2
    go_ret
    exact ⟨ret_bool HB.out.symm, rfl⟩
  · have h1' : (d == [47]) = false := by simpa using h1
    have hB : belowR d p = (hasPrefix p d && hasPrefix (p.drop d.length) [47]) := by unfold belowR belowP; rw [h1']; simp
    by_cases h2 : d.length < p.length
    · have hx := extract_str p 0 d.length
      have ht : (p.drop 0).take (d.length - 0) = p.take d.length := by simp
      rw [ht] at hx
      cases h3 : p.take d.length == d with
      | true =>
        have h3' : p.take d.length = d := by simpa using h3
        obtain ⟨c, hc⟩ : ∃ c, p[d.length]? = some c := ⟨_, List.getElem?_eq_getElem h2⟩
        have ec : ∀ h, ((⟨p.toArray⟩ : ByteArray)[d.length]'h) = c := fun h => at_ba hc h
        have hpre : hasPrefix p d = true := List.isPrefixOf_iff_prefix.2 ⟨p.drop d.length, by
          have := List.take_append_drop d.length p
          rw [h3'] at this
          exact this⟩
        have hhd : hasPrefix (p.drop d.length) [47] = (c == 47) := by
          have : p.drop d.length = c :: p.drop (d.length + 1) := by
            rw [List.drop_eq_getElem_cons h2]
            congr 1
            have := List.getElem?_eq_getElem h2
            rw [hc] at this
            exact (Option.some.inj this).symm
          rw [this]
          by_cases h : c = 47
          · simp [hasPrefix, List.isPrefixOf, h]
          · have h' : (47 : UInt8) ≠ c := fun e => h e.symm
            have e1 : (c == 47) = false := by simpa using h
            have e2 : ((47 : UInt8) == c) = false := by simpa using h'
            rw [e1]
            simp [hasPrefix, List.isPrefixOf, e2]
        have HB := Lib.hid (hB.trans (by rw [hpre, hhd, Bool.true_and]))
        have h2' : decide (d.length < p.length) = true := decide_eq_true h2
        clear h1 hB hpre hhd ht h3' hc
        generalize p.take d.length = n at hx h3
        by_cases hq : c = 47
        · subst hq
          go_enter Tryz.func165, Tryz.ntmps165
          go_wp2
          go_ret
          exact ⟨ret_bool (by rw [HB.out]; rfl), rfl⟩
        · have hq' : ((c.toNat : Int) == 47) = false := by
            have : c.toNat ≠ 47 := fun e => hq (UInt8.toNat_inj.1 e)
            simp; omega
          have HQ := Lib.hid hq
          clear hq
          go_enter Tryz.func165, Tryz.ntmps165
          go_wp2
          go_ret
          exact ⟨ret_bool (by rw [HB.out]; simpa using HQ.out), rfl⟩
      | false =>
        have hpre : hasPrefix p d = false := by
          cases hh : hasPrefix p d with
          | false => rfl
          | true =>
            obtain ⟨t, ht⟩ := List.isPrefixOf_iff_prefix.1 hh
            rw [← ht, List.take_left] at h3
            simp at h3
        have HB := Lib.hid (hB.trans (by rw [hpre, Bool.false_and]))
        have h2' : decide (d.length < p.length) = true := decide_eq_true h2
        clear h1 hB hpre ht
        generalize p.take d.length = n at hx h3
        go_enter Tryz.func165, Tryz.ntmps165
        go_wp2
        go_ret
        exact ⟨ret_bool HB.out.symm, rfl⟩
    · have h2' : decide (d.length < p.length) = false := decide_eq_false h2
      have hpre : (hasPrefix p d && hasPrefix (p.drop d.length) [47]) = false := by
        have : p.drop d.length = [] := List.drop_eq_nil_of_le (by omega)
        rw [this]
        simp [hasPrefix]
      have HB := Lib.hid (hB.trans hpre)
      clear h1 hB hpre
      go_enter Tryz.func165, Tryz.ntmps165
      go_wp2
      go_ret
      exact ⟨ret_bool HB.out.symm, rfl⟩

/-! ### find, dir, free, file -/

def findR (fs : List Ent) (p : List UInt8) : Int := if (findE fs p).isSome then (idxE fs p : Int) else -1
def SeekI (fs : List Ent) (f : List UInt8 → Bool) (i : Value) : Prop := ∃ k : Nat, k ≤ fs.length ∧ i = .int .i64 k ∧ ((fs.take k).any fun x => f x.path) = false
theorem seek_next {fs : List Ent} {f : List UInt8 → Bool} {k : Nat} {x : Ent} (hx : fs[k]? = some x) (h : ((fs.take k).any fun x => f x.path) = false) (hf : f x.path = false) : ((fs.take (k + 1)).any fun x => f x.path) = false := by
  rw [List.take_add_one, hx, List.any_append, h]
  simp [hf]
theorem seek_end {fs : List Ent} {f : List UInt8 → Bool} {k : Nat} (hk : fs.length ≤ k) (h : ((fs.take k).any fun x => f x.path) = false) : (fs.any fun x => f x.path) = false := by
  rwa [List.take_of_length_le hk] at h
theorem seek_at {fs : List Ent} {f : List UInt8 → Bool} {k : Nat} {x : Ent} (hx : fs[k]? = some x) (hf : f x.path = true) : (fs.any fun x => f x.path) = true := List.any_eq_true.2 ⟨x, List.mem_of_getElem? hx, hf⟩
theorem find_at {fs : List Ent} {p : List UInt8} {k : Nat} {x : Ent} (hx : fs[k]? = some x) (h : ((fs.take k).any fun x => x.path == p) = false) (hf : (x.path == p) = true) : findR fs p = k := by
  have hs : (findE fs p).isSome = true := by
    rw [findE, List.isSome_find?]
    exact seek_at (f := fun q => q == p) hx hf
  unfold findR
  rw [if_pos hs]
  have hlt := (List.getElem?_eq_some_iff.1 hx).1
  have : idxE fs p = k := by
    unfold idxE
    rw [List.findIdx_eq hlt]
    refine ⟨?_, fun j hj => ?_⟩
    · rw [(List.getElem?_eq_some_iff.1 hx).2]; exact hf
    · rw [List.any_eq_false] at h
      have hm : fs[j] ∈ fs.take k := by
        rw [List.mem_take_iff_getElem]
        exact ⟨j, by omega, rfl⟩
      simpa using h _ hm
  rw [this]
theorem find_end {fs : List Ent} {p : List UInt8} {k : Nat} (hk : fs.length ≤ k) (h : ((fs.take k).any fun x => x.path == p) = false) : findR fs p = -1 := by
  have hs : (findE fs p).isSome = false := by
    rw [findE, List.isSome_find?]
    exact seek_end (f := fun q => q == p) hk h
  unfold findR
  rw [hs]
  rfl
section
variable {w : World} {FR : Nat → Prop} {rb : Nat} {v : Value} {fs : List Ent} {r : RSt}

set_option maxRecDepth 100000 in
theorem refFind_any (h : RefV w FR rb v fs r) (p : List UInt8) :
    Calls Tryz.prog 100 #[.pointer (some ⟨rb, 0, none⟩), str p] w fun e w' => e = .returned (.int .i64 (findR fs p)) ∧ w = w' := by
  obtain ⟨A, cap, rfl, hcap, _, hat⟩ := h.form
  have c0 := h.cell0
  have hn := h.short
  have HAT := Lib.hid hat
  clear hat h
  go_enter Tryz.func100, Tryz.ntmps100
  go_wp2_with fail
  go_loop [5] (fun i => SeekI fs (fun q => q == p) i) (fun i => fs.length - (intOf i).toNat)
  case atStart => exact ⟨0, Nat.zero_le _, rfl, rfl⟩
  case round =>
    obtain ⟨k, hk, rfl, hno⟩ := hrel
    have HNO := Lib.hid hno
    clear hno
    by_cases hlt : k < fs.length
    · have hx : fs[k]? = some fs[k] := List.getElem?_eq_getElem hlt
      generalize fs[k] = x at hx
      obtain ⟨g, rfl, _, cp, _, _⟩ := HAT.out k x hx
      have HX := Lib.hid hx
      clear hx
      cases hq : x.path == p with
      | true =>
        have HQ := Lib.hid hq
        go_wp2_with fail
        go_ret
        exact ⟨ret_int (find_at HX.out HNO.out HQ.out).symm, rfl⟩
      | false =>
        have HQ := Lib.hid hq
        go_wp2_with fail
        go_round
        case rel => exact ⟨k + 1, by omega, by go_num, seek_next (f := fun q => q == p) HX.out HNO.out HQ.out⟩
        case measure => simp [intOf]; omega
    · have hge : fs.length ≤ k := by omega
      go_wp2_with fail
      go_ret
      exact ⟨ret_int (find_end hge HNO.out).symm, rfl⟩

set_option maxRecDepth 100000 in
theorem refDir_any (h : RefV w FR rb v fs r) (p : List UInt8) (hp : p.length ≤ maxLen) :
    Calls Tryz.prog 107 #[.pointer (some ⟨rb, 0, none⟩), str p] w fun e w' => e = .returned (.bool (dirR fs p)) ∧ w = w' := by
  obtain ⟨A, cap, rfl, hcap, _, hat⟩ := h.form
  have c0 := h.cell0
  have hn := h.short
  have HAT := Lib.hid hat
  have HSM := Lib.hid h.small
  have HP := Lib.hid hp
  clear hat h hp
  go_enter Tryz.func107, Tryz.ntmps107
  go_wp2_with fail
  go_loop [5] (fun i => SeekI fs (fun q => belowR p q) i) (fun i => fs.length - (intOf i).toNat)
  case atStart => exact ⟨0, Nat.zero_le _, rfl, rfl⟩
  case round =>
    obtain ⟨k, hk, rfl, hno⟩ := hrel
    have HNO := Lib.hid hno
    clear hno
    by_cases hlt : k < fs.length
    · have hx : fs[k]? = some fs[k] := List.getElem?_eq_getElem hlt
      generalize fs[k] = x at hx
      obtain ⟨g, rfl, _, cp, _, _⟩ := HAT.out k x hx
      have CB := Lib.hid (refBelow_any x.path p w (Nat.le_trans (HSM.out x (List.mem_of_getElem? hx)).1 (by unfold maxLen; omega)) HP.out)
      have HX := Lib.hid hx
      clear hx
      cases hq : belowR p x.path with
      | true =>
        have HQ := Lib.hid hq
        rw [hq] at CB
        clear hq
        go_wp2_with (go_at_call 165; refine (CB.out).mono ?_; rintro e w' ⟨rfl, rfl⟩)
        go_ret
        exact ⟨ret_bool (by unfold dirR; rw [seek_at (f := fun q => belowR p q) HX.out HQ.out]; rfl), rfl⟩
      | false =>
        have HQ := Lib.hid hq
        rw [hq] at CB
        clear hq
        go_wp2_with (go_at_call 165; refine (CB.out).mono ?_; rintro e w' ⟨rfl, rfl⟩)
        go_round
        case rel => exact ⟨k + 1, by omega, by go_num, seek_next (f := fun q => belowR p q) HX.out HNO.out HQ.out⟩
        case measure => simp [intOf]; omega
    · have hge : fs.length ≤ k := by omega
      go_wp2_with fail
      go_ret
      exact ⟨ret_bool (by unfold dirR; rw [seek_end (f := fun q => belowR p q) hge HNO.out, Bool.false_or]), rfl⟩

set_option maxRecDepth 100000 in
theorem refFree_any (h : RefV w FR rb v fs r) (p : List UInt8) (hp : p.length ≤ maxLen) :
    Calls Tryz.prog 104 #[.pointer (some ⟨rb, 0, none⟩), str p] w fun e w' => e = .returned (.int .i64 (freeR fs p)) ∧ w = w' := by
  have CD := Lib.hid (refDir_any h p hp)
  obtain ⟨A, cap, rfl, hcap, _, hat⟩ := h.form
  have c0 := h.cell0
  have hn := h.short
  have HAT := Lib.hid hat
  have HSM := Lib.hid h.small
  have HP := Lib.hid hp
  clear hat h hp
  cases hd : dirR fs p with
  | true =>
    have HD := Lib.hid hd
    rw [hd] at CD
    clear hd
    go_enter Tryz.func104, Tryz.ntmps104
    go_wp2_with (go_at_call 107; refine (CD.out).mono ?_; rintro e w' ⟨rfl, rfl⟩)
    go_ret
    exact ⟨ret_int (by unfold freeR; rw [HD.out]; rfl), rfl⟩
  | false =>
    have HD := Lib.hid hd
    rw [hd] at CD
    clear hd
    go_enter Tryz.func104, Tryz.ntmps104
    go_wp2_with (go_at_call 107; refine (CD.out).mono ?_; rintro e w' ⟨rfl, rfl⟩)
    go_loop [5] (fun i => SeekI fs (fun q => belowR q p) i) (fun i => fs.length - (intOf i).toNat)
    case atStart => exact ⟨0, Nat.zero_le _, rfl, rfl⟩
    case round =>
      obtain ⟨k, hk, rfl, hno⟩ := hrel
      have HNO := Lib.hid hno
      clear hno
      by_cases hlt : k < fs.length
      · have hx : fs[k]? = some fs[k] := List.getElem?_eq_getElem hlt
        generalize fs[k] = x at hx
        obtain ⟨g, rfl, _, cp, _, _⟩ := HAT.out k x hx
        have CB := Lib.hid (refBelow_any p x.path w HP.out (Nat.le_trans (HSM.out x (List.mem_of_getElem? hx)).1 (by unfold maxLen; omega)))
        have HX := Lib.hid hx
        clear hx
        cases hq : belowR x.path p with
        | true =>
          have HQ := Lib.hid hq
          rw [hq] at CB
          clear hq
          go_wp2_with (go_at_call 165; refine (CB.out).mono ?_; rintro e w' ⟨rfl, rfl⟩)
          go_ret
          exact ⟨ret_int (by unfold freeR; rw [HD.out, seek_at (f := fun q => belowR q p) HX.out HQ.out]; rfl), rfl⟩
        | false =>
          have HQ := Lib.hid hq
          rw [hq] at CB
          clear hq
          go_wp2_with (go_at_call 165; refine (CB.out).mono ?_; rintro e w' ⟨rfl, rfl⟩)
          go_round
          case rel => exact ⟨k + 1, by omega, by go_num, seek_next (f := fun q => belowR q p) HX.out HNO.out HQ.out⟩
          case measure => simp [intOf]; omega
      · have hge : fs.length ≤ k := by omega
        go_wp2_with fail
        go_ret
        exact ⟨ret_int (by unfold freeR; rw [HD.out, seek_end (f := fun q => belowR q p) hge HNO.out]; rfl), rfl⟩

theorem findR_neg (fs : List Ent) (p : List UInt8) : (decide (findR fs p < 0)) = !(findE fs p).isSome := by
  unfold findR
  cases (findE fs p).isSome with
  | true => simp
  | false => simp
theorem findR_ge (fs : List Ent) (p : List UInt8) : -1 ≤ findR fs p ∧ findR fs p ≤ fs.length := by
  have : idxE fs p ≤ fs.length := List.findIdx_le_length
  unfold findR
  split <;> omega

theorem refFile_any (h : RefV w FR rb v fs r) (p : List UInt8) (hp : p.length ≤ maxLen) :
    Calls Tryz.prog 99 #[.pointer (some ⟨rb, 0, none⟩), str p] w fun e w' => e = .returned (.int .i64 (fileR fs p)) ∧ w = w' := by
  have CD := Lib.hid (refDir_any h p hp)
  have CF := Lib.hid (refFind_any h p)
  have hF : fileR fs p = if dirR fs p then 24 else if (findE fs p).isSome then 0 else 4 := rfl
  have hneg := findR_neg fs p
  clear h hp
  generalize findR fs p = n at CF hneg
  cases hd : dirR fs p with
  | true =>
    rw [hd] at CD hF
    have HF := Lib.hid hF
    clear hd hF hneg
    go_enter Tryz.func99, Tryz.ntmps99
    go_wp2_with (go_at_call 107; refine (CD.out).mono ?_; rintro e w' ⟨rfl, rfl⟩)
    go_ret
    exact ⟨ret_int (by rw [HF.out]; rfl), rfl⟩
  | false =>
    rw [hd] at CD hF
    cases hs : (findE fs p).isSome with
    | true =>
      rw [hs] at hF hneg
      have HF := Lib.hid hF
      clear hd hF hs
      have hn : decide (n < 0) = false := hneg
      clear hneg
      go_enter Tryz.func99, Tryz.ntmps99
      go_wp2_with (first | (go_at_call 107; refine (CD.out).mono ?_; rintro e w' ⟨rfl, rfl⟩) | (go_at_call 100; refine (CF.out).mono ?_; rintro e w' ⟨rfl, rfl⟩))
      go_ret
      exact ⟨ret_int (by rw [HF.out]; rfl), rfl⟩
    | false =>
      rw [hs] at hF hneg
      have HF := Lib.hid hF
      clear hd hF hs
      have hn : decide (n < 0) = true := hneg
      clear hneg
      go_enter Tryz.func99, Tryz.ntmps99
      go_wp2_with (first | (go_at_call 107; refine (CD.out).mono ?_; rintro e w' ⟨rfl, rfl⟩) | (go_at_call 100; refine (CF.out).mono ?_; rintro e w' ⟨rfl, rfl⟩))
      go_ret
      exact ⟨ret_int (by rw [HF.out]; rfl), rfl⟩
end

end Go.Proofs.YthpkfgjjaieikaaGreatDoor
