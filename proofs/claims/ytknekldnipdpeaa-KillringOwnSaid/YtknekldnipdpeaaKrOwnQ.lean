/-
  Rows of the law's own that are written over, beside the two rings.
-/
import Derived.Test.YtknekldnipdpeaaKrOwnP
import Derived.OwnWalkIn
namespace Go.Proofs.Ytknekldnipdpeaa
open Go.RowKit Go.Shelf Go.Lib

/-- between two stores: the rows that are written over, the row of these rows, both rings -/
structure OS (X : Nat → Prop) (w : World) (g r : Nat) (S : KS) (v : Value) (n : Nat) (ys : List Value) (W : World) : Prop where
  each : ∀ (i : Nat) (y : Value), ys[i]? = some y → ∃ m, m ≤ 35184372088832 ∧ WR W y m ∧ ∀ b, y.ownBlock = some b → X b ∧ w.heap.size ≤ b
  row : W.ownsRow 0 30 1 v n ys
  dx : DX X w W g r S S
theorem OS.at {X : Nat → Prop} {w W : World} {g r : Nat} {S : KS} {A : Option Addr} {n c : Nat} {ys : List Value} (h : OS X w g r S (.slice A n c) n ys W) {q : Nat} (hq : q < n) : ∃ b A2 m c2, A = some ⟨b, 0, none⟩ ∧ W.cell? ⟨b, q, none⟩ = some (.slice A2 m c2) ∧ m ≤ 35184372088832 ∧ ys[q]? = some (.slice A2 m c2) ∧ WR W (.slice A2 m c2) m := by
  have hl : ys.length = n := by simpa using h.row.1
  obtain ⟨m, h1, h2, _⟩ := h.each q ys[q] (List.getElem?_eq_getElem (by omega))
  obtain ⟨A2, c2, e⟩ := h2.form
  rcases id h.row.2 with ⟨_, h0⟩ | ⟨b, cap, cur, e1, _, hg, hn, _, hs, ht⟩
  · omega
  · injection e1 with e1 e2 e3
    subst e1
    have hq2 : ys[q]? = some (.slice A2 m c2) := by rw [List.getElem?_eq_getElem (by omega), e]
    refine ⟨b, A2, m, c2, rfl, ?_, h1, hq2, e ▸ h2⟩
    rw [cell_of_row W b q cur _ (0, 0) hg]
    rw [← ht, List.getElem?_take] at hq2
    split at hq2
    · rw [← hq2, Array.getElem?_toList]
    · cases hq2
theorem OS.set {X : Nat → Prop} {w W : World} {g r : Nat} {S : KS} {v : Value} {n : Nat} {ys : List Value} (h : OS X w g r S v n ys W) {q : Nat} {A2 : Option Addr} {m c2 j b : Nat} (hy : ys[q]? = some (.slice A2 m c2)) (hw : WR W (.slice A2 m c2) m) (hj : j < m) (hb : A2 = some ⟨b, 0, none⟩) (u : Value) : OS X w g r S v n ys (W.setCell ⟨b, j, none⟩ u) := by
  obtain ⟨b', e1, _, _, e2⟩ := hw.at hj
  rw [hb] at e1
  injection e1 with e1
  injection e1 with e1
  subst e1
  obtain ⟨m', _, _, h3⟩ := h.each q _ hy
  have hX := h3 b e2
  refine ⟨fun i y hi => ?_, ?_, h.dx.touch (T := fun k => k = b) (Touch.setCell W ⟨b, j, none⟩ u rfl) fun k hk => hk ▸ hX⟩
  · obtain ⟨m2, a1, a2, a3⟩ := h.each i y hi
    exact ⟨m2, a1, a2.set b j u, a3⟩
  · refine own_same h.row fun k hk => Below.heap_setCell W ⟨b, j, none⟩ u k fun e => ?_
    obtain ⟨c1, g1⟩ := own_kind h.row hk
    rcases hw with ⟨h0, _⟩ | ⟨b2, c', cur, e5, g2, _⟩
    · omega
    · injection e5 with e5
      rw [hb] at e5
      injection e5 with e5
      injection e5 with e5
      subst e5
      rw [e] at g1
      change W.heap[b]? = _ at g1
      rw [g2] at g1
      injection g1 with g1
      injection g1 with _ g1
      exact absurd g1 (by decide)
/-- one row that is written over, its blocks new -/
structure OY (w Wd : World) (g r : Nat) (S : KS) (A : Option Addr) (m c : Nat) (W : World) : Prop where
  wr : WR W (.slice A m c) m
  t : Touch (fun k => Wd.heap.size ≤ k) Wd W
  new : ∀ b, (Value.slice A m c).ownBlock = some b → Wd.heap.size ≤ b
theorem OY.set {w Wd W : World} {g r : Nat} {S : KS} {A : Option Addr} {m c j b : Nat} (h : OY w Wd g r S A m c W) (hj : j < m) (hb : A = some ⟨b, 0, none⟩) (u : Value) : OY w Wd g r S A m c (W.setCell ⟨b, j, none⟩ u) := by
  obtain ⟨b', e1, _, _, e2⟩ := h.wr.at hj
  rw [hb] at e1
  injection e1 with e1
  injection e1 with e1
  subst e1
  exact ⟨h.wr.set b j u, h.t.trans (Touch.setCell W ⟨b, j, none⟩ u (h.new b e2)), h.new⟩
theorem OS.start {w wr w4 w5 W W' : World} {g r : Nat} {S : KS} {mv v' more : Value} {ls : List (List Int)} {xs : List Value} {f : List Int} {n' : Nat} (hR : ARow wr w.heap.size mv ls xs) (hl : ∀ l ∈ ls, l.length ≤ 35184372087808) (hfl : f.length ≤ 35184372087808) (hB : Below wr.heap.size wr W)
    (hM : RRow w5 w4.heap.size more f) (hM' : RRow W w4.heap.size more f) (hw4 : w.heap.size ≤ w4.heap.size) (_ : w.heap.size ≤ wr.heap.size) (hD : DX (fun k => k < wr.heap.size ∨ (w4.heap.size ≤ k ∧ k < w5.heap.size)) w W g r S S)
    (hrow : W'.ownsRow w.heap.size 30 1 v' n' (xs ++ [more])) (hg : W.grownBy W' mv.ownBlock) : OS (fun k => k < wr.heap.size ∨ (w4.heap.size ≤ k ∧ k < w5.heap.size)) w g r S v' n' (xs ++ [more]) W' := by
  have hRW := hR.below hB
  have hxl : xs.length = ls.length := by simpa using hR.1.1
  have keep : ∀ {y : Value} {m : Nat}, WR W y m → WR W' y m := fun {y m} h => h.same fun k hk ⟨cur, hc⟩ => hg.block k hk fun e => by
    obtain ⟨c2, e2⟩ := own_kind hRW.1 e.symm
    rw [hc] at e2
    injection e2 with e2
    injection e2 with _ e2
    exact absurd e2 (by decide)
  refine ⟨fun i y hi => ?_, own_less hrow (Nat.zero_le _), hD.touch (T := fun k => mv.ownBlock = some k) (Touch.of_grown hg fun _ h => h) fun k hk => ?_⟩
  · by_cases hlt : i < ls.length
    · rw [List.getElem?_append_left (by omega)] at hi
      obtain ⟨x, g1, g2⟩ := hR.2 i ls[i] (List.getElem?_eq_getElem hlt)
      obtain ⟨x', g3, g4⟩ := hRW.2 i ls[i] (List.getElem?_eq_getElem hlt)
      rw [hi] at g1 g3
      injection g1 with g1
      injection g3 with g3
      subst g1
      subst g3
      refine ⟨ls[i].length, by have := hl ls[i] (List.getElem_mem hlt); omega, keep (WR.of g4 rfl), fun b hb => ?_⟩
      have := own_lt g2 b hb
      exact ⟨.inl this.2, this.1⟩
    · have hi' : i = xs.length := by
        have := (List.getElem?_eq_some_iff.1 hi).1
        rw [List.length_append] at this
        simp at this
        omega
      subst hi'
      rw [List.getElem?_append_right (Nat.le_refl _), Nat.sub_self] at hi
      simp at hi
      subst hi
      refine ⟨f.length, by omega, keep (WR.of hM' rfl), fun b hb => ?_⟩
      have := own_lt hM b hb
      exact ⟨.inr this, by omega⟩
  · have := own_lt hR.1 k hk
    exact ⟨.inl this.2, this.1⟩
theorem wpListIn_append_of {F : Fence} {nF : Nat} {w w' : World} {ops : Array Oper} {rest : List Oper} {o : Oper} {a : Act} {Q : Exit → Act → World → Prop} {t u : TypeId} {v' v y : Value} (hgd : o.guard = none) (s x : Operand)
    (ho : o.op = .call { callee := .builtin .append, args := #[s, x], argTypes := #[t, u] }) (hs : a.eval s = v) (hx : a.eval x = y) (hr : (Builtin.append_ #[t, u] o.type #[v, y]).run Try.prog w = .ok v' w') (hfin : wpListIn F nF Try.prog ops Q rest (a.put o.dst v') w') : wpListIn F nF Try.prog ops Q (o :: rest) a w := by
  refine wpListIn_plain hgd fun K hK => ?_
  unfold Oper.wpIn
  refine ⟨by simp [Oper.about, ho, resolve, Target.leads, Sem.run_pure], ?_⟩
  rw [Oper.semAt_plain F _ _ (by rw [ho]; intro c hc'; cases hc')]
  simp [execOp, ho, resolve, invoke, builtin, hs, hx, hr, Result.andThen]
  exact hK _ _ hfin
theorem wpListIn_append_runes2 {F : Fence} {nF : Nat} {ops : Array Oper} {rest : List Oper} {o : Oper} {a : Act} {w : World} {Q : Exit → Act → World → Prop} (hgd : o.guard = none) (s x : Operand)
    (ho : o.op = .call { callee := .builtin .append, args := #[s, x], argTypes := #[30, 30] }) (B : Nat) (v : Value) (l : List Int) (hs : a.eval s = v) (hrow : RRow w B v l) (A : Option Addr) (n c : Nat) (y : List Int)
    (hx : a.eval x = .slice A n c) (hy : Holds1 w (.slice A n c) (runeVals y)) (hl : l.length + y.length ≤ 35184372088832) (hB : B ≤ w.heap.size)
    (h : ∀ A' n' c' w', n' = (l ++ y).length → RRow w' B (.slice A' n' c') (l ++ y) → Below B w w' → w.grownBy w' v.ownBlock → ((Value.slice A' n' c').ownBlock = v.ownBlock ∨ (Value.slice A' n' c').ownBlock = some w.heap.size) → wpListIn F nF Try.prog ops Q rest (a.put o.dst (.slice A' n' c')) w') : wpListIn F nF Try.prog ops Q (o :: rest) a w := by
  obtain ⟨i, hi, hz, hs2, hby⟩ := info_parts info_rune
  obtain ⟨A', c', e, _⟩ := id hy
  injection e with e1 e2 e3
  rw [runeVals_length] at e2
  subst e2
  obtain ⟨v', w', hr, h4, h5, h6⟩ := run_append_src (P := Try.prog) w B 30 o.type 21 i _ 1 4 Try.underlying30 hi hz hs2 hby rfl (by decide) v l.length (runeVals l) hrow hy.src (runeVals_one _) (by unfold maxLen; omega) (by omega) hB
  have hR : RRow w' B v' (l ++ y) := by unfold RRow; rw [List.length_append, runeVals_append]; exact h4
  obtain ⟨A2, c2, rfl⟩ := RRow.form hR
  exact wpListIn_append_of hgd s x ho hs hx hr (h A2 _ c2 w' rfl hR (grown_below h5 hB fun k hk => (own_lt hrow k hk).1) h5 h6)
theorem wpListIn_append_rows2 {F : Fence} {nF : Nat} {ops : Array Oper} {rest : List Oper} {o : Oper} {a : Act} {w : World} {Q : Exit → Act → World → Prop} (hgd : o.guard = none) (s x : Operand)
    (ho : o.op = .call { callee := .builtin .append, args := #[s, x], argTypes := #[26, 26] }) (B : Nat) (v : Value) (n : Nat) (xs : List Value) (hs : a.eval s = v) (hrow : w.ownsRow B 30 1 v n xs) (A : Option Addr) (m c : Nat) (ys : List Value)
    (hx : a.eval x = .slice A m c) (hy : Src w 1 A c m ys) (h1 : ∀ u ∈ ys, u.oneCell' = true) (hl : (n + m) * 24 ≤ 140737488355328) (hB : B ≤ w.heap.size)
    (h : ∀ A' n' c' w', n' = n + m → w'.ownsRow B 30 1 (.slice A' n' c') n' (xs ++ ys) → Below B w w' → w.grownBy w' v.ownBlock → ((Value.slice A' n' c').ownBlock = v.ownBlock ∨ (Value.slice A' n' c').ownBlock = some w.heap.size) → wpListIn F nF Try.prog ops Q rest (a.put o.dst (.slice A' n' c')) w') : wpListIn F nF Try.prog ops Q (o :: rest) a w := by
  obtain ⟨i, hi, hz, hs2, hby⟩ := info_parts info_row
  obtain ⟨v', w', hr, h4, h5, h6⟩ := run_append_src (P := Try.prog) w B 26 o.type 30 i _ 1 24 Try.underlying26 hi hz hs2 hby rfl (by decide) v n xs hrow hy h1 (by unfold maxLen; omega) (by omega) hB
  obtain ⟨A2, c2, rfl, _⟩ := own_form h4
  exact wpListIn_append_of hgd s x ho hs hx hr (h A2 _ c2 w' rfl h4 (grown_below h5 hB fun k hk => (own_lt hrow k hk).1) h5 h6)
/-- both rings; all blocks of X are neither's -/
structure DY (X : Nat → Prop) (w W : World) (g r : Nat) (S S' : KS) : Prop where
  ex : ∃ K K', RAt K W g S ∧ WAt K' W r S' ∧ ¬ K' g ∧ ¬ K r ∧ g ≠ r ∧ ∀ k, X k → ¬ K k ∧ ¬ K' k ∧ k ≠ g ∧ k ≠ r
  b : Below w.heap.size w W
  gw : w.heap.size ≤ g
  rw' : w.heap.size ≤ r
theorem DY.of {w W : World} {g r : Nat} {S S' : KS} (h : DI w W g r S S') : DY (fun k => W.heap.size ≤ k) w W g r S S' := by
  have hl := h.lts
  obtain ⟨⟨K, K', h1, h2, h3, h4, h5⟩, h6, h7, h8⟩ := h
  exact ⟨⟨K, K', h1, h2, h3, h4, h5, fun k hk => ⟨fun h => by have := h1.inw _ h; omega, fun h => by have := h2.inw _ h; omega, by omega, by omega⟩⟩, h6, h7, h8⟩
theorem DY.touch {X T : Nat → Prop} {w W W' : World} {g r : Nat} {S S' : KS} (h : DY X w W g r S S') (ht : Touch T W W') (hT : ∀ k, T k → X k ∧ w.heap.size ≤ k) : DY X w W' g r S S' := by
  obtain ⟨⟨K, K', h1, h2, h3, h4, h5, hX⟩, h6, h7, h8⟩ := h
  refine ⟨⟨K, K', h1.to (Agree.of_touch ht fun k hk e => ?_), h2.to (Agree.of_touch ht fun k hk e => ?_), h3, h4, h5, hX⟩, h6.trans (ht.below h6.size fun k hk => (hT k hk).2), h7, h8⟩
  · obtain ⟨a1, a2, a3, a4⟩ := hX k (hT k e).1
    rcases hk with hk | hk
    · exact a1 hk
    · exact a3 hk
  · obtain ⟨a1, a2, a3, a4⟩ := hX k (hT k e).1
    rcases hk with hk | hk
    · exact a2 hk
    · exact a4 hk
theorem DY.below {X : Nat → Prop} {w W W' : World} {g r : Nat} {S S' : KS} (h : DY X w W g r S S') (hb : Below W.heap.size W W') : DY X w W' g r S S' := h.touch (Touch.of_below (T := fun _ => False) hb) fun _ h => h.elim
theorem DY.di {X : Nat → Prop} {w W : World} {g r : Nat} {S S' : KS} (h : DY X w W g r S S') : DI w W g r S S' := by
  obtain ⟨⟨K, K', h1, h2, h3, h4, h5, _⟩, h6, h7, h8⟩ := h
  exact ⟨⟨K, K', h1, h2, h3, h4, h5⟩, h6, h7, h8⟩
/-- an answer: a row that is nobody's else -/
def NewRow (B : Nat) (W : World) (n : Nat) (x : Value) : Prop := WR W x n ∧ n ≤ 1024 ∧ ∀ b, x.ownBlock = some b → B ≤ b
theorem DY.yank {X : Nat → Prop} {w W : World} {g r : Nat} {S S' : KS} (h : DY X w W g r S S') : Calls Try.prog 13 #[.pointer (some ⟨g, 0, none⟩)] W fun e W' => (∃ A n c er, e = .returned (.tuple #[.slice A n c, .int .i64 er]) ∧ NewRow W.heap.size W' n (.slice A n c)) ∧ DY X w W' g r S S' ∧ Below W.heap.size W W' := by
  obtain ⟨K, K', h1, _⟩ := h.ex
  by_cases hn : S.es = []
  · refine (yank_none W g S h1 hn).mono ?_
    rintro e W' ⟨rfl, rfl⟩
    exact ⟨⟨none, 0, 0, _, rfl, .inl ⟨rfl, none, 0, rfl⟩, by omega, fun b hb => by simp [Value.ownBlock] at hb⟩, h, Below.refl _ _⟩
  · obtain ⟨x, hx⟩ : ∃ x, S.es[S.pl]? = some x := ⟨_, List.getElem?_eq_getElem (h1.nonempty hn)⟩
    obtain ⟨vs, nw, _, he⟩ := h1.row
    obtain ⟨_, _, _, hl⟩ := he _ _ hx
    refine (yank_at W g S.es S.pl x h1 hx).mono ?_
    rintro e W' ⟨A, c, rfl, hr, hb⟩
    exact ⟨⟨A, _, c, _, rfl, WR.of hr rfl, hl, fun b hb => (own_lt hr b hb).1⟩, h.below hb, hb⟩
theorem DY.rotate {X : Nat → Prop} {w W : World} {g r : Nat} {S S' : KS} (h : DY X w W g r S S') (by' : Int) : Calls Try.prog 15 #[.pointer (some ⟨g, 0, none⟩), .int .i64 by'] W fun e W' => (∃ A n c er, e = .returned (.tuple #[.slice A n c, .int .i64 er]) ∧ NewRow W.heap.size W' n (.slice A n c)) ∧ DY X w W' g r (rotS S by') S' ∧ Touch (Only g) W W' := by
  by_cases hn : S.es = []
  · obtain ⟨K, K', h1, _⟩ := h.ex
    refine (rotate_none W g S h1 hn by').mono ?_
    rintro e W' ⟨rfl, rfl⟩
    have e1 : rotS S by' = S := if_pos hn
    rw [e1]
    exact ⟨⟨none, 0, 0, _, rfl, .inl ⟨rfl, none, 0, rfl⟩, by omega, fun b hb => by simp [Value.ownBlock] at hb⟩, h, Touch.refl _ _⟩
  · obtain ⟨e1, hq⟩ := rotS_at by' hn
    obtain ⟨⟨K, K', h1, h2, h3, h4, h5, hX⟩, h6, h7, h8⟩ := h
    obtain ⟨x, hx⟩ : ∃ x, S.es[rotP S.es.length S.pl by']? = some x := ⟨_, List.getElem?_eq_getElem hq⟩
    obtain ⟨vs, nw, _, he⟩ := h1.row
    obtain ⟨_, _, _, hl⟩ := he _ _ hx
    refine (rotate_at W g S.es S.pl _ by' x h1 (h1.nonempty hn) rfl hx).mono ?_
    rintro e W' ⟨A, c, rfl, hr, hR, ht⟩
    rw [e1]
    refine ⟨⟨A, _, c, _, rfl, WR.of hr rfl, hl, fun b hb => (own_lt hr b hb).1⟩, ⟨⟨K, K', hR, h2.to (Agree.of_touch ht fun k hk e => ?_), h3, h4, h5, hX⟩, below_only h6 h7 ht, h7, h8⟩, ht⟩
    simp only [Only] at e
    rcases hk with hk | hk
    · exact h3 (e ▸ hk)
    · exact h5 (e.symm.trans hk)
theorem rotS_es (S : KS) (by' : Int) : (rotS S by').es = S.es := by unfold rotS; split <;> rfl
theorem DI.told2 {w W : World} {g r : Nat} {S S' : KS} (h : DI w W g r S S') (he : S.es = S'.es) : ∃ A c pl, W.heap[r]? = some (.cells #[.slice A S.es.length c, .int .i64 pl] 28 (0, 0)) ∧ ∀ W', Below W.heap.size W W' → ∀ st, Calls Try.prog 19 #[.pointer (some ⟨g, 0, none⟩), .slice A S.es.length c, .int .i64 st] W' fun e w' => e = .returned (.bool true) ∧ Below W'.heap.size W' w' := by
  obtain ⟨K, K', h1, h2, _⟩ := h.ex
  obtain ⟨A, c, h3, _, h4⟩ := h2.cells
  rw [← he] at h3 h4
  exact ⟨A, c, _, h3, fun W' hb st => told_is W' g S (h1.below hb) A _ c (h4.below hb) rfl st⟩
/-- two rows that are written over -/
structure OZ (X : Nat → Prop) (w W : World) (g r : Nat) (S S' : KS) (y z : Value) (ny nz : Nat) : Prop where
  dy : DY X w W g r S S'
  yw : WR W y ny
  zw : WR W z nz
  yX : ∀ b, y.ownBlock = some b → X b ∧ w.heap.size ≤ b
  zX : ∀ b, z.ownBlock = some b → X b ∧ w.heap.size ≤ b
theorem OZ.set {X : Nat → Prop} {w W : World} {g r : Nat} {S S' : KS} {y z : Value} {ny nz b j : Nat} (h : OZ X w W g r S S' y z ny nz) (hb : X b ∧ w.heap.size ≤ b) (u : Value) : OZ X w (W.setCell ⟨b, j, none⟩ u) g r S S' y z ny nz :=
  ⟨h.dy.touch (T := fun k => k = b) (Touch.setCell W ⟨b, j, none⟩ u rfl) fun _ hk => hk ▸ hb, h.yw.set b j u, h.zw.set b j u, h.yX, h.zX⟩
theorem WR.ring {X : Nat → Prop} {w W W' : World} {g r : Nat} {S S' : KS} {y : Value} {n : Nat} (h : WR W y n) (hD : DY X w W g r S S') (ht : Touch (Only g) W W') : WR W' y n := h.same fun k hk ⟨cur, hc⟩ => ht.block k hk fun e => by
  simp only [Only] at e
  subst e
  obtain ⟨K, K', h1, _⟩ := hD.ex
  obtain ⟨vs, nw, hrow, _⟩ := h1.row
  rw [hrow.row] at hc
  injection hc with hc
  injection hc with _ hc
  exact absurd hc (by decide)
/-- range_law2, where the second of the loop's two values is assigned -/
theorem range_law2t {P : Program} {n : Nat} {g : Operand} {p q : Tmp} {assign body : Code} {Q : Exit → Act → World → Prop} {a : Act} {w : World} {gf : Nat} {lb : Array Value} (q' : Tmp)
    (hg : a.eval g = .func (.func gf) #[] lb) (eg : ∀ args w, (callFunc gf args).run P w = .ok (.enter gf args) w)
    {T : Nat → Prop} {N : Nat} {R : Nat → Value → Value → Nat → World → Prop} (hit : IterG2 P gf lb T N R w) (hR : ∀ k x y b W W', R k x y b W → W.heap.size ≤ W'.heap.size → (∀ j, w.heap.size + 2 ≤ j → W'.heap[j]? = W.heap[j]?) → R k x y b W') (hT : ∀ k, T k → k < w.heap.size)
    (I : Nat → World → Prop) (Ix : Code → World → Prop)
    (hI : ∀ k W W', I k W → Touch (fun j => w.heap.size + 1 ≤ j) W W' → I k W') (hIx : ∀ c W W', Ix c W → Touch (fun j => w.heap.size + 1 ≤ j) W W' → Ix c W')
    (h0 : I 0 w)
    (hassign : ∀ (l : Nat) (x y : Value) (W : World) (K : Act → World → Prop), K { tmps := ((a.tmps.setIfInBounds p x).setIfInBounds q y).setIfInBounds q' y, defers := [] } W →
      assign.wpIn (Fence.wide.inRound l) (n - 1 - 1) P (Exit.then K (fun _ _ _ => False)) { tmps := (a.tmps.setIfInBounds p x).setIfInBounds q y, defers := [] } W)
    (hbody : ∀ (l k : Nat) (x y : Value) (b : Nat) (W : World), k < N → R k x y b W → w.heap.size + 2 ≤ b → I k W → w.heap.size + 1 < W.heap.size → body.wpIn (Fence.wide.inRound l) (n - 1 - 1) P (roundEnd T w.heap.size b I Ix k W) { tmps := ((a.tmps.setIfInBounds p x).setIfInBounds q y).setIfInBounds q' y, defers := [] } W)
    (hdone : ∀ (W : World), I N W → W.heap[w.heap.size]? = some (.deferred (some [])) → Q .normal { a with defers := { target := .collected w.heap.size, args := #[] } :: a.defers } W)
    (hstop : ∀ (c : Code) (W : World), Ix c W → W.heap[w.heap.size]? = some (.deferred (some [])) → c.wpIn Fence.wide n P Q { a with defers := { target := .collected w.heap.size, args := #[] } :: a.defers } W) :
    (Code.rangeFunc g #[p, q] assign body).wpIn Fence.wide n P Q a w :=
  range_law2 hg eg hit hR hT I Ix hI hIx h0 (fun x y => { tmps := ((a.tmps.setIfInBounds p x).setIfInBounds q y).setIfInBounds q' y, defers := [] }) hassign hbody hdone hstop
end Go.Proofs.Ytknekldnipdpeaa
