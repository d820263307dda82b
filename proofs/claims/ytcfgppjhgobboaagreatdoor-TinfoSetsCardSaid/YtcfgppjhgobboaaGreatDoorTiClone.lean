/-
  What slices.Clone, clone, indexOf of package tinfo return.
-/
import Derived.Test.YtcfgppjhgobboaaGreatDoorTiCheckB
namespace Go.Proofs.YtcfgppjhgobboaaGreatDoor
open Go.RowKit Go.Shelf Go.Lib Go.Maps
attribute [local go_sem] Oper.semAt_some

/-- an append of what is read somewhere, at the operation -/
theorem wpList_append_src {P : Program} {ops : Array Oper} {rest : List Oper} {o : Oper} {a : Act} {w : World} {Q : Exit → Act → World → Prop} (hgd : o.guard = none) (s x : Operand) (t : TypeId)
    (ho : o.op = .call { callee := .builtin .append, args := #[s, x], argTypes := #[t, t] }) (base : Nat) (e : TypeId) (i : TypeInfo) (z : Value) (size bytes : Nat) (ht : P.underlying t = some (.slice e)) (hi : P.info? e = some i) (hz : i.zero = some z)
    (hsize : i.size = size) (hby : i.bytes = bytes) (hzs : z.cells.size = size) (hsz : 0 < size)
    (v : Value) (n : Nat) (xs : List Value) (hs : a.eval s = v) (hown : w.ownsRow base e size v n xs) {A : Option Addr} {c m : Nat} {news : List Value} (hx : a.eval x = .slice A m c) (hsrc : Src w size A c m news) (h1 : ∀ u ∈ news, u.oneCell' = true)
    (h63 : n + m ≤ maxLen) (hbytes : (n + m) * bytes ≤ 140737488355328) (hbase : base ≤ w.heap.size)
    (h : ∀ v' w', w'.ownsRow base e size v' (n + m) (xs ++ news) → w.grownBy w' v.ownBlock → (v'.ownBlock = v.ownBlock ∨ v'.ownBlock = some w.heap.size) → wpList P ops Q rest (a.put o.dst v') w') : wpList P ops Q (o :: rest) a w := by
  refine wpList_plain hgd fun K hK => ?_
  obtain ⟨v', w', hrun, r1, r2, r3⟩ := run_append_src w base t o.type e i z size bytes ht hi hz hsize hby hzs hsz v n xs hown hsrc h1 h63 hbytes hbase
  unfold Oper.wp
  simp [execOp, ho, resolve, invoke, builtin, hs, hx, hrun, Result.andThen]
  exact hK _ _ (h v' w' r1 r2 r3)

theorem info_ext : (Tryz.prog.info? 48).map (fun i => (i.zero, i.size, i.bytes)) = some (some (.agg #[.int .i64 0, .string ⟨#[]⟩, .int .i64 0, .int .i64 0, .string ⟨#[]⟩]), 5, 56) := by kernel_rfl

set_option maxRecDepth 100000 in
theorem cloneCaps_any (w : World) (v : Value) (l : List CapD) (h : CapsV w v l) : Calls Tryz.prog 17 #[v] w fun e w' => ∃ u, e = .returned u ∧ CapRow w' u l ∧ Below w.heap.size w w' ∧ (∀ b, u.ownBlock = some b → w.heap.size ≤ b) := by
  obtain ⟨A, cap, rfl, hcap, hsm, hsrc⟩ := h
  have q22 : ∀ (w : World) (a : Option Addr) (n c n' c' : Nat), (binOp .eql 23 (.slice a n c) (.slice none n' c')).run Tryz.prog w = .ok (.bool a.isNone) w := fun w a n c n' c' => Lib.run_eql_slice_nil w _ _ a n c n' c' Tryz.underlying23
  cases A with
  | none =>
    obtain ⟨h0, rfl⟩ := hsrc.nil rfl
    have hl : l = [] := List.eq_nil_of_length_eq_zero h0
    subst hl
    clear hsrc hcap hsm h0
    go_enter Tryz.func17, Tryz.ntmps17
    go_wp2
    go_ret
    exact ⟨_, rfl, World.ownsRow_nil _ _ _ _, Below.refl _ _, fun b hb => by cases hb⟩
  | some a =>
    obtain ⟨i, hi, hz, hs, hby⟩ := info_parts info_cap
    have HS := Lib.hid hsrc
    clear hsrc
    go_enter Tryz.func17, Tryz.ntmps17
    go_wp2_with (at_builtin; refine wpList_append_src rfl _ _ 23 rfl w.heap.size 37 i _ 3 32 Tryz.underlying23 hi hz hs hby rfl (by decide) (.slice (some ⟨w.heap.size, 0, none⟩) 0 0) 0 [] rfl (World.ownsRow_made w #[] 0 (Nat.le_refl _) (Nat.zero_le _) rfl) rfl (HS.out.below ((Below.refl _ w).alloc (Nat.le_refl _) _)) (capVals_one l) (by unfold maxLen; omega) (by omega) (by simp) ?_; intro v' w' hr' hg' hb'; have H1 := Lib.hid hr'; have H2 := Lib.hid hg'; have H3 := Lib.hid hb'; clear hr' hg' hb')
    go_ret
    refine ⟨v', rfl, ?_, ((Below.refl _ w).alloc (Nat.le_refl _) _).grown H2.out (by simp) (by intro k hk; simp [Value.ownBlock] at hk; omega), fun b hb => ?_⟩
    · have := own_zero H1.out
      rw [Nat.zero_add, List.nil_append] at this
      exact this
    · rcases H3.out with h | h
      · rw [h] at hb; simp [Value.ownBlock] at hb; omega
      · rw [h] at hb; injection hb with hb; simp at hb; omega
set_option maxRecDepth 100000 in
theorem cloneExts_any (w : World) (v : Value) (l : List ExtD) (h : ExtsV w v l) : Calls Tryz.prog 18 #[v] w fun e w' => ∃ u, e = .returned u ∧ ExtRow w' u l ∧ Below w.heap.size w w' ∧ (∀ b, u.ownBlock = some b → w.heap.size ≤ b) := by
  obtain ⟨A, cap, rfl, hcap, hsm, hsrc⟩ := h
  have q22 : ∀ (w : World) (a : Option Addr) (n c n' c' : Nat), (binOp .eql 24 (.slice a n c) (.slice none n' c')).run Tryz.prog w = .ok (.bool a.isNone) w := fun w a n c n' c' => Lib.run_eql_slice_nil w _ _ a n c n' c' Tryz.underlying24
  cases A with
  | none =>
    obtain ⟨h0, rfl⟩ := hsrc.nil rfl
    have hl : l = [] := List.eq_nil_of_length_eq_zero h0
    subst hl
    clear hsrc hcap hsm h0
    go_enter Tryz.func18, Tryz.ntmps18
    go_wp2
    go_ret
    exact ⟨_, rfl, World.ownsRow_nil _ _ _ _, Below.refl _ _, fun b hb => by cases hb⟩
  | some a =>
    obtain ⟨i, hi, hz, hs, hby⟩ := info_parts info_ext
    have HS := Lib.hid hsrc
    clear hsrc
    go_enter Tryz.func18, Tryz.ntmps18
    go_wp2_with (at_builtin; refine wpList_append_src rfl _ _ 24 rfl w.heap.size 48 i _ 5 56 Tryz.underlying24 hi hz hs hby rfl (by decide) (.slice (some ⟨w.heap.size, 0, none⟩) 0 0) 0 [] rfl (World.ownsRow_made w #[] 0 (Nat.le_refl _) (Nat.zero_le _) rfl) rfl (HS.out.below ((Below.refl _ w).alloc (Nat.le_refl _) _)) (extVals_one l) (by unfold maxLen; omega) (by omega) (by simp) ?_; intro v' w' hr' hg' hb'; have H1 := Lib.hid hr'; have H2 := Lib.hid hg'; have H3 := Lib.hid hb'; clear hr' hg' hb')
    go_ret
    refine ⟨v', rfl, ?_, ((Below.refl _ w).alloc (Nat.le_refl _) _).grown H2.out (by simp) (by intro k hk; simp [Value.ownBlock] at hk; omega), fun b hb => ?_⟩
    · have := own_zero H1.out
      rw [Nat.zero_add, List.nil_append] at this
      exact this
    · rcases H3.out with h | h
      · rw [h] at hb; simp [Value.ownBlock] at hb; omega
      · rw [h] at hb; injection hb with hb; simp at hb; omega
end Go.Proofs.YtcfgppjhgobboaaGreatDoor
