/-
  What ucell's Cells returns for every list of runes and every column: the plain function's cells, in new memory.
-/
import Derived.Test.YtalfodcjpnjmaaaDoorMem
import Derived.Test.YtalfodcjpnjmaaaDoorCellsP
import Derived.Laws.Cover4
namespace Go.Proofs.YtalfodcjpnjmaaaDoor
open Go.RowKit

theorem info_cell : (Tryd.prog.info? 38).map (fun i => (i.zero, i.size, i.bytes)) = some (some (.agg #[.string ⟨#[]⟩, .int .i64 0, .int .i64 0]), 3, 32) := by kernel_rfl

theorem narrow_any (r : Int) (w : World) :
    Calls Tryd.prog 55 #[.int .i32 r] w fun e w' => e = .returned (.agg #[.string (Utf8.encode r), .int .i64 1, .int .i64 0]) ∧ Below w.heap.size w w' := by
  go_enter Tryd.func55, Tryd.ntmps55
  go_wp2
  exact bodyPost_ret (v := .agg #[.string (Utf8.encode r), .int .i64 1, .int .i64 0]) (by simp [results, Tryd.results55, go_sem]) rfl ⟨rfl, (Below.refl _ _).alloc (Nat.le_refl _) _⟩

/-- a row of cells of the call's own -/
def Row3 (w : World) (base : Nat) (v : Value) (l : List Cel) : Prop := w.ownsRow base 38 3 v l.length (cellsVals l)
theorem Row3.below {w w' : World} {base : Nat} {v : Value} {l : List Cel} (h : Row3 w base v l) (hb : Below w.heap.size w w') : Row3 w' base v l := own_below h hb
theorem Row3.nil (w : World) (base : Nat) : Row3 w base (.slice none 0 0) [] := World.ownsRow_nil _ _ _ _
theorem Row3.len {w : World} {base : Nat} {v : Value} {l : List Cel} (h : Row3 w base v l) : ∃ A c, v = .slice A l.length c := by
  rcases h.2 with ⟨rfl, h0⟩ | ⟨g, cap, cur, rfl, _⟩
  · exact ⟨none, 0, by rw [h0]⟩
  · exact ⟨_, _, rfl⟩

/-- cells that were just built, appended -/
theorem append_cells {ops : Array Oper} {rest : List Oper} {o : Oper} {a : Act} {Q : Exit → Act → World → Prop} (w : World) (hgd : o.guard = none) (s x : Operand)
    (ho : o.op = .call { callee := .builtin .append, args := #[s, x], argTypes := #[34, 34] })
    (base : Nat) (v : Value) (l : List Cel) (hs : a.eval s = v) (hown : Row3 w base v l)
    (m : Nat) (news : List Cel) (cs : Array Value) (hcs : cs = (cellsVals news).toArray) (hm : news.length = m) (hx : a.eval x = .slice (some ⟨w.heap.size, 0, none⟩) m m) (hroom : l.length + m ≤ 4000000000) (hbase : base ≤ w.heap.size)
    (h : ∀ v' w', Row3 w' base v' (l ++ news) → Below base w w' → wpList Tryd.prog ops Q rest (a.put o.dst v') w') : wpList Tryd.prog ops Q (o :: rest) a (w.alloc (.cells cs 38)) := by
  subst hcs
  obtain ⟨i0, hi, hz0, hz1, hz2⟩ := info_parts info_cell
  refine append_news w hgd s x 34 ho base 38 i0 _ 3 32 Tryd.underlying34 hi hz0 hz1 hz2 rfl (by decide) v l.length (cellsVals l) hs hown m (cellsVals news) (by rw [cellsVals_length, hm]) (cellsVals_one news) hx
    (by unfold maxLen; omega) (Nat.le_trans (Nat.mul_le_mul_right 32 hroom) (by decide)) hbase ?_
  intro v' w' ho' hb
  refine h v' w' ?_ hb
  unfold Row3
  rw [List.length_append, hm, cellsVals_append]
  exact ho'

theorem vals_blank : #[.string (Utf8.encode 32), .int .i64 1, .int .i64 0] = (cellsVals [nar 32]).toArray := rfl
theorem tab_room {n k x : Nat} (h : n + 8 ≤ 4000000000) (hk : k < 8 - x) : n + k + 1 ≤ 4000000000 := by omega

theorem addTab_any (base : Nat) (v : Value) (l : List Cel) (start : Nat) (w : World) (hown : Row3 w base v l) (hbase : base ≤ w.heap.size) (hs : start < 8) (hroom : l.length + 8 ≤ 4000000000) :
    Calls Tryd.prog 54 #[v, .int .i64 start] w fun e w' => ∃ v', e = .returned v' ∧ Row3 w' base v' (tabP l start) ∧ Below base w w' := by
  obtain ⟨A, c, rfl⟩ := hown.len
  have HO := Lib.hid hown
  clear hown
  go_enter Tryd.func54, Tryd.ntmps54
  go_wp2
  go_loopw [0, 11] (fun u i wr => ∃ k : Nat, k ≤ 8 - (start + l.length) % 8 ∧ i = .int .i64 k ∧ Row3 wr base u (l ++ List.replicate k (nar 32)) ∧ Below base w wr) (fun _ i _ => 8 - (intOf i).toNat)
  case atStart => exact ⟨0, by omega, rfl, by simpa using HO.out, Below.refl _ _⟩
  case round =>
    obtain ⟨k, hk, rfl, hown, hb⟩ := hrel
    have HR := Lib.hid hown
    have hsz := hb.size
    clear hown HO
    by_cases hlt : k < 8 - (start + l.length) % 8
    · have hroom' : (l ++ List.replicate k (nar 32)).length + 1 ≤ 4000000000 := by rw [List.length_append, List.length_replicate]; exact tab_room hroom hlt
      have HM := Lib.hid hroom'
      clear hroom'
      go_wp2_with (first
        | (go_at_call 55; refine (narrow_any _ _).mono ?_; rintro e w1 ⟨rfl, hb1⟩)
        | (at_builtin; refine append_cells w1 rfl _ _ rfl base _ (l ++ List.replicate k (nar 32)) rfl (by exact HR.out.below hb1) 1 [nar 32] _ vals_blank rfl rfl HM.out (Nat.le_trans hbase (Nat.le_trans hsz hb1.size)) ?_; intro v' w2 hown' hb2))
      go_roundw
      case rel =>
        refine ⟨k + 1, by omega, by go_num, ?_, hb.trans ((hb1.mono (Nat.le_trans hbase hsz)).trans hb2)⟩
        rw [List.replicate_succ', ← List.append_assoc]
        exact hown'
      case measure => simp [intOf]; omega
    · go_wp2
      go_ret
      have e : 8 - (start + l.length) % 8 = k := by omega
      refine ⟨_, rfl, ?_, hb⟩
      unfold tabP
      rw [e]
      exact HR.out

theorem Row3.text {w : World} {base : Nat} {A : Option Addr} {c : Nat} {l : List Cel} (h : Row3 w base (.slice A l.length c) l) {j : Nat} (hj : j < l.length) :
    ∃ g, A = some ⟨g, 0, none⟩ ∧ w.cell? ⟨g, j * 3, none⟩ = some (.string (l.getD j (ByteArray.empty, 0)).1) ∧ w.frozen? ⟨g, j * 3, none⟩ = false ∧
      ∀ s, Row3 (w.setCell ⟨g, j * 3, none⟩ (.string s)) base (.slice A l.length c) (l.set j (s, (l.getD j (ByteArray.empty, 0)).2)) ∧ Below base w (w.setCell ⟨g, j * 3, none⟩ (.string s)) := by
  rcases h.2 with ⟨_, h0⟩ | ⟨g, cap, cur, hv, hb, _⟩
  · omega
  · injection hv with h1 _ h3
    subst h1 h3
    have h' : w.ownsRow base 38 3 (.slice (some ⟨g, 0, none⟩) l.length c) l.length (cellsVals l) := h
    refine ⟨g, rfl, ?_, h'.frozenAt _, fun s => ⟨?_, ?_⟩⟩
    · rw [h'.cellAt _ (by omega), cellsVals_at l j hj]
    · have := (h'.stored (j * 3) (.string s)).1
      rw [cellsVals_set l s j hj] at this
      unfold Row3
      rw [List.length_set]
      exact this
    · exact (Below.refl base w).setCell (p := ⟨g, j * 3, none⟩) hb _

theorem toList_bytes (s : ByteArray) : s.toList = s.data.toList := ByteArray.toList_eq s
theorem isEmpty_yes {t : ByteArray} (h : t.size = 0) : t.toList.isEmpty = true := by
  rw [toList_bytes, List.isEmpty_iff]
  exact List.eq_nil_of_length_eq_zero h
theorem isEmpty_no {t : ByteArray} (h : ¬ t.size = 0) : t.toList.isEmpty = false := by
  rw [toList_bytes, Bool.eq_false_iff]
  intro e
  rw [List.isEmpty_iff] at e
  exact h (by show t.data.toList.length = 0; rw [e]; rfl)

theorem vals_join (r : Int) : #[.string (⟨#[32]⟩ ++ Utf8.encode r), .int .i64 1, .int .i64 0] = (cellsVals [(⟨#[32]⟩ ++ Utf8.encode r, 1)]).toArray := rfl

theorem addCombining_any (base : Nat) (v : Value) (l : List Cel) (r : Int) (w : World) (hown : Row3 w base v l) (hbase : base ≤ w.heap.size) (hroom : l.length + 8 ≤ 4000000000) :
    Calls Tryd.prog 56 #[v, .int .i32 r] w fun e w' => ∃ v', e = .returned v' ∧ Row3 w' base v' (combP l r l.length) ∧ Below base w w' := by
  obtain ⟨A, c, rfl⟩ := hown.len
  have HO := Lib.hid hown
  clear hown
  have hen := encode_size_le r
  go_enter Tryd.func56, Tryd.ntmps56
  go_wp2
  go_loop [5] (fun i => ∃ z : Int, -1 ≤ z ∧ z < l.length ∧ i = .int .i64 z ∧ combP l r (z + 1).toNat = combP l r l.length) (fun i => (intOf i + 1).toNat)
  case atStart => exact ⟨(l.length : Int) - 1, by omega, by omega, rfl, by congr 1; omega⟩
  case round =>
    obtain ⟨z, hz0, hz1, rfl, hcomb⟩ := hrel
    have HC := Lib.hid hcomb
    clear hcomb
    by_cases hz : z < 0
    · obtain rfl : z = -1 := by omega
      go_wp2_with (at_builtin; refine append_cells w rfl _ _ rfl base _ l rfl (by exact HO.out) 1 [(⟨#[32]⟩ ++ Utf8.encode r, 1)] _ (vals_join r) rfl rfl (by omega) hbase ?_; intro v' w2 hown' hb2)
      go_ret
      exact ⟨_, rfl, by rw [← HC.out]; exact hown', hb2⟩
    · obtain ⟨j, rfl⟩ : ∃ j : Nat, z = j := ⟨z.toNat, by omega⟩
      have hj : j < l.length := by omega
      obtain ⟨g, rfl, hcell, hfr, hset⟩ := HO.out.text hj
      have HS := Lib.hid (hset ((l.getD j (ByteArray.empty, 0)).1 ++ Utf8.encode r))
      clear hset
      have C0 := Lib.hid (combP_skip l r j)
      have C1 := Lib.hid (combP_join l r j)
      have C2 := Lib.hid (combP_full l r j)
      generalize ht : (l.getD j (ByteArray.empty, 0)).1 = t at *
      clear ht
      have hjj : ((j : Int) + 1).toNat = j + 1 := by omega
      rw [hjj] at HC
      clear hjj
      by_cases h0 : t.size = 0
      · have he := isEmpty_yes h0
        have hc0 := C0.out h0
        have H0 := Lib.hid hc0
        clear h0 hc0
        go_wp2
        go_round
        case rel => exact ⟨(j : Int) - 1, by omega, by omega, rfl, by rw [show ((j : Int) - 1 + 1).toNat = j by omega, ← H0.out]; exact HC.out⟩
        case measure => simp [intOf]
      · have he := isEmpty_no h0
        by_cases h32 : t.size ≤ 32
        · have H1 := Lib.hid (C1.out h0 h32)
          clear h0
          go_wp2
          go_ret
          exact ⟨_, rfl, by rw [← HC.out, H1.out]; exact HS.out.1, HS.out.2⟩
        · have H2 := Lib.hid (C2.out h0 h32)
          clear h0
          go_wp2
          go_ret
          exact ⟨_, rfl, by rw [← HC.out, H2.out]; exact HO.out, Below.refl _ _⟩

theorem vals_two (a b : Int) : #[.string (Utf8.encode a), .int .i64 1, .int .i64 0, .string (Utf8.encode b), .int .i64 1, .int .i64 0] = (cellsVals [nar a, nar b]).toArray := rfl
theorem vals_one (a : Int) : #[.string (Utf8.encode a), .int .i64 1, .int .i64 0] = (cellsVals [nar a]).toArray := rfl
theorem vals_wide (a : Int) : #[.string (Utf8.encode a), .int .i64 2, .int .i64 0, .string ⟨#[]⟩, .int .i64 0, .int .i64 0] = (cellsVals [(Utf8.encode a, 2), (ByteArray.empty, 0)]).toArray := rfl

set_option maxHeartbeats 1000000 in
theorem addRune_any (base : Nat) (v : Value) (l : List Cel) (r : Int) (start : Nat) (w : World) (hT : Tabs w) (hown : Row3 w base v l) (hbase : base ≤ w.heap.size) (hs : start < 8) (hroom : l.length + 8 ≤ 4000000000) :
    Calls Tryd.prog 46 #[v, .int .i32 r, .int .i64 start] w fun e w' => ∃ v', e = .returned v' ∧ Row3 w' base v' (runeP l r start) ∧ Below base w w' := by
  have HO := Lib.hid hown
  have HT := Lib.hid hT
  clear hown hT
  by_cases h9 : r = 9
  · have e : runeP l r start = tabP l start := by simp [runeP, h9]
    rw [e]
    subst h9
    clear e
    have CT := Lib.hid (addTab_any base v l start w HO.out hbase hs hroom)
    go_enter Tryd.func46, Tryd.ntmps46
    go_wp2_with (go_at_call 54; refine (CT.out).mono ?_; rintro e w1 ⟨v1, rfl, ho1, hb1⟩)
    go_ret
    exact ⟨_, rfl, ho1, hb1⟩
  · have h9' : (r == 9) = false := by simp [h9]
    by_cases hc : ctl r = true
    · by_cases h127 : r ≤ 127
      · have e : runeP l r start = l ++ [nar 94, nar (bits .xor .i32 r 64)] := by simp [runeP, h9, hc, h127]
        rw [e]
        have CC := Lib.hid (control_any r w)
        rw [hc] at CC
        clear e hc h9
        go_enter Tryd.func46, Tryd.ntmps46
        go_wp2_with (go_at_call 18; refine (CC.out).mono ?_; rintro e w' ⟨rfl, rfl⟩)
        refine (narrow_any _ _).mono ?_
        rintro e w1 ⟨rfl, hb1⟩
        go_wp2_with fail
        refine (narrow_any _ _).mono ?_
        rintro e w2 ⟨rfl, hb2⟩
        have hs1 := hb1.size
        have hs2 := hb2.size
        go_wp2_with (at_builtin; refine append_cells w2 rfl _ _ rfl base _ l rfl (by exact (HO.out.below hb1).below hb2) 2 [nar 94, nar (bits .xor .i32 r 64)] _ (vals_two _ _) rfl rfl (by omega) (by omega) ?_; intro v' w3 hown' hb3)
        go_ret
        exact ⟨_, rfl, hown', (hb1.mono hbase).trans ((hb2.mono (by omega)).trans hb3)⟩
      · have e : runeP l r start = l ++ [nar 65533] := by simp [runeP, h9, hc, h127]
        rw [e]
        have CC := Lib.hid (control_any r w)
        rw [hc] at CC
        clear e hc h9
        go_enter Tryd.func46, Tryd.ntmps46
        go_wp2_with (go_at_call 18; refine (CC.out).mono ?_; rintro e w' ⟨rfl, rfl⟩)
        refine (narrow_any _ _).mono ?_
        rintro e w1 ⟨rfl, hb1⟩
        have hs1 := hb1.size
        go_wp2_with (at_builtin; refine append_cells w1 rfl _ _ rfl base _ l rfl (by exact HO.out.below hb1) 1 [nar 65533] _ (vals_one _) rfl rfl (by omega) (by omega) ?_; intro v' w3 hown' hb3)
        go_ret
        exact ⟨_, rfl, hown', (hb1.mono hbase).trans hb3⟩
    · have hc' : ctl r = false := by simpa using hc
      clear hc
      by_cases hv : vld r = true
      · have CC := Lib.hid (control_any r w)
        have CV := Lib.hid (valid_any r w)
        rw [hc'] at CC
        rw [hv] at CV
        have CW := Lib.hid (width_any r w HT.out.d)
        by_cases hw0 : wid r = 0
        · have e : runeP l r start = combP l r l.length := by simp [runeP, h9, hc', hv, hw0]
          rw [e]
          rw [hw0] at CW
          clear e hc' hv hw0 h9
          go_enter Tryd.func46, Tryd.ntmps46
          go_wp2_with (first
            | (go_at_call 18; refine (CC.out).mono ?_; rintro e w' ⟨rfl, rfl⟩)
            | (go_at_call 42; refine (CV.out).mono ?_; rintro e w' ⟨rfl, rfl⟩)
            | (go_at_call 16; refine (CW.out).mono ?_; rintro e w1 ⟨rfl, hb1⟩))
          have hs1 := hb1.size
          refine (addCombining_any base _ l r _ (HO.out.below hb1) (by omega) hroom).mono ?_
          rintro e w2 ⟨v2, rfl, ho2, hb2⟩
          go_wp2
          go_ret
          exact ⟨_, rfl, ho2, (hb1.mono hbase).trans hb2⟩
        · by_cases hw2 : wid r = 2
          · have e : runeP l r start = l ++ [(Utf8.encode r, 2), (ByteArray.empty, 0)] := by simp [runeP, h9, hc', hv, hw2]
            rw [e]
            rw [hw2] at CW
            clear e hc' hv hw0 h9 hw2
            go_enter Tryd.func46, Tryd.ntmps46
            go_wp2_with (first
              | (go_at_call 18; refine (CC.out).mono ?_; rintro e w' ⟨rfl, rfl⟩)
              | (go_at_call 42; refine (CV.out).mono ?_; rintro e w' ⟨rfl, rfl⟩)
              | (go_at_call 16; refine (CW.out).mono ?_; rintro e w1 ⟨rfl, hb1⟩)
              | (at_builtin; refine append_cells w1 rfl _ _ rfl base _ l rfl (by exact HO.out.below hb1) 2 [(Utf8.encode r, 2), (ByteArray.empty, 0)] _ (vals_wide _) rfl rfl (by omega) (Nat.le_trans hbase hb1.size) ?_; intro v' w3 hown' hb3))
            go_ret
            exact ⟨_, rfl, hown', (hb1.mono hbase).trans hb3⟩
          · have e : runeP l r start = l ++ [nar r] := by simp [runeP, h9, hc', hv, hw0, hw2]
            rw [e]
            have hn0 : (wid r == 0) = false := by simp [hw0]
            have hn2 : (wid r == 2) = false := by simp [hw2]
            clear e hc' hv hw0 h9 hw2
            generalize wid r = x at *
            go_enter Tryd.func46, Tryd.ntmps46
            go_wp2_with (first
              | (go_at_call 18; refine (CC.out).mono ?_; rintro e w' ⟨rfl, rfl⟩)
              | (go_at_call 42; refine (CV.out).mono ?_; rintro e w' ⟨rfl, rfl⟩)
              | (go_at_call 16; refine (CW.out).mono ?_; rintro e w1 ⟨rfl, hb1⟩))
            have hs1 := hb1.size
            refine (narrow_any _ _).mono ?_
            rintro e w2 ⟨rfl, hb2⟩
            have hs2 := hb2.size
            go_wp2_with (at_builtin; refine append_cells w2 rfl _ _ rfl base _ l rfl (by exact (HO.out.below hb1).below hb2) 1 [nar r] _ (vals_one _) rfl rfl (by omega) (by omega) ?_; intro v' w3 hown' hb3)
            go_ret
            exact ⟨_, rfl, hown', (hb1.mono hbase).trans ((hb2.mono (by omega)).trans hb3)⟩
      · have hv' : vld r = false := by simpa using hv
        have e : runeP l r start = l ++ [nar 65533] := by simp [runeP, h9, hc', hv']
        rw [e]
        have CC := Lib.hid (control_any r w)
        have CV := Lib.hid (valid_any r w)
        rw [hc'] at CC
        rw [hv'] at CV
        clear e hc' h9 hv hv'
        go_enter Tryd.func46, Tryd.ntmps46
        go_wp2_with (first
          | (go_at_call 18; refine (CC.out).mono ?_; rintro e w' ⟨rfl, rfl⟩)
          | (go_at_call 42; refine (CV.out).mono ?_; rintro e w' ⟨rfl, rfl⟩))
        refine (narrow_any _ _).mono ?_
        rintro e w1 ⟨rfl, hb1⟩
        have hs1 := hb1.size
        go_wp2_with (at_builtin; refine append_cells w1 rfl _ _ rfl base _ l rfl (by exact HO.out.below hb1) 1 [nar 65533] _ (vals_one _) rfl rfl (by omega) (by omega) ?_; intro v' w3 hown' hb3)
        go_ret
        exact ⟨_, rfl, hown', (hb1.mono hbase).trans hb3⟩

/-- the place in its row of eight where a column stands -/
def startOf (col : Int) : Nat := (max col 0).toNat % 8

/-- the loop of Cells -/
def CellsRel (rs : List Int) (start : Nat) (w : World) (u i : Value) (wr : World) : Prop :=
  ∃ k : Nat, k ≤ rs.length ∧ i = .int .i64 k ∧ Row3 wr w.heap.size u (cellsP start (rs.take k)) ∧ Below w.heap.size w wr

theorem cells_any (rs : List Int) (v : Value) (col : Int) (w : World) (hT : Tabs w) (hv : Holds1 w v (runeVals rs)) (hl : rs.length ≤ 400000000) :
    Calls Tryd.prog 28 #[v, .int .i64 col] w fun e w' => ∃ v', e = .returned v' ∧ Row3 w' w.heap.size v' (cellsP (startOf col) rs) ∧ Below w.heap.size w w' := by
  obtain ⟨A, c, hvv, hc, h⟩ := hv
  have e : (runeVals rs).length = rs.length := by simp [runeVals]
  rw [e] at hvv h hc
  subst hvv
  have H := Lib.hid h
  have HT := Lib.hid hT
  clear h e hT hc
  obtain ⟨start, hst⟩ : ∃ s, startOf col = s := ⟨_, rfl⟩
  have hs8 : start < 8 := by rw [← hst]; unfold startOf; omega
  have hmax : max col 0 % 8 = start := by rw [← hst]; unfold startOf; omega
  rw [hst]
  clear hst
  have hm0 : (0 : Int) ≤ max col 0 := by omega
  go_enter Tryd.func28, Tryd.ntmps28
  go_wp2
  rw [hmax]
  clear hmax hm0
  generalize max col 0 = m0
  go_loopw [6, 14] (fun u i wr => CellsRel rs start w u i wr) (fun _ i _ => rs.length - (intOf i).toNat)
  case atStart => exact ⟨0, by omega, rfl, Row3.nil _ _, Below.refl _ _⟩
  case round =>
    obtain ⟨k, hk, rfl, ho, hb⟩ := hrel
    have HO := Lib.hid ho
    clear ho
    have hsz := hb.size
    by_cases hlt : k < rs.length
    · obtain ⟨b, off, rfl, hblk, hcell⟩ := H.out (by omega)
      have hx : (runeVals rs)[k]? = some (.int .i32 rs[k]) := by simp [runeVals, hlt]
      have h1 := hcell k _ hx
      have h1' : wr.cell? ⟨b, off + k, none⟩ = some (.int .i32 rs[k]) := (hb.cell (p := ⟨b, off + k, none⟩) hblk).trans h1
      have HX := Lib.hid (show rs.take (k + 1) = rs.take k ++ [rs[k]] from List.take_succ_eq_append_getElem hlt)
      have hlen := cellsP_length start (rs.take k)
      rw [List.length_take] at hlen
      have hroom : (cellsP start (rs.take k)).length + 8 ≤ 4000000000 := by omega
      clear hcell hx h1 hlen
      generalize hxx : rs[k] = x at *
      clear hxx
      have HA := Lib.hid (addRune_any w.heap.size u6 (cellsP start (rs.take k)) x start wr (HT.out.below hb) HO.out hsz hs8 hroom)
      clear hroom
      go_wp2_with (go_at_call 46; refine (HA.out).mono ?_; rintro e w1 ⟨v1, rfl, ho1, hb1⟩)
      go_roundw
      case rel => exact ⟨k + 1, by omega, by go_num, by rw [HX.out, cellsP_snoc]; exact ho1, hb.trans hb1⟩
      case measure => simp [intOf]; omega
    · go_wp2
      go_ret
      have e : rs.take k = rs := List.take_of_length_le (by omega)
      exact ⟨_, rfl, by rw [← e]; exact HO.out, hb⟩

theorem span_any (rs : List Int) (v : Value) (col : Int) (w : World) (hT : Tabs w) (hv : Holds1 w v (runeVals rs)) (hl : rs.length ≤ 400000000) :
    Calls Tryd.prog 29 #[v, .int .i64 col] w fun e w' => e = .returned (.int .i64 (cellsP (startOf col) rs).length) ∧ Below w.heap.size w w' := by
  have HA := Lib.hid (cells_any rs v col w hT hv hl)
  clear hT hv hl
  generalize cellsP (startOf col) rs = l at *
  go_enter Tryd.func29, Tryd.ntmps29
  go_wp2_with (go_at_call 28; refine (HA.out).mono ?_; rintro e w1 ⟨v1, rfl, ho1, hb1⟩; obtain ⟨A, c, rfl⟩ := ho1.len)
  go_ret
  exact ⟨rfl, hb1⟩

end Go.Proofs.YtalfodcjpnjmaaaDoor
