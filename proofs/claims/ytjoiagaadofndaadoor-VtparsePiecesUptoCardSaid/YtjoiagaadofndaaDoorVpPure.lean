/-
  The functions of package vtparse that only look at a byte.
-/
import Derived.Test.YtjoiagaadofndaaDoorVpPut
import Derived.Deep.Cut
import Derived.Deep.RegionLaw
namespace Go.Proofs.YtjoiagaadofndaaDoor
open Go.RowKit Go.Shelf Go.Lib
attribute [local go_sem] Oper.semAt_some

theorem u8_eq (b : UInt8) (n : Nat) (h : n < 256) : (b = UInt8.ofNat n) ↔ b.toNat = n := by
  constructor
  · rintro rfl; simp; omega
  · intro e; apply UInt8.toNat_inj.1; simp; omega
theorem classP_nat (b : UInt8) : classP b = if b.toNat < 32 then 0 else if b.toNat < 48 then 1 else if b.toNat = 58 then 3 else if b.toNat < 60 then 2 else if b.toNat < 64 then 4 else if b.toNat < 127 then 5 else 6 := by
  have e : (b = 58) ↔ b.toNat = 58 := u8_eq b 58 (by omega)
  simp only [classP, UInt8.lt_iff_toNat_lt, e]
  rfl
theorem introP_nat (b : UInt8) : introP b = if b.toNat = 91 then 3 else if b.toNat = 93 then 12 else if b.toNat = 80 then 7 else if b.toNat = 88 then 13 else if b.toNat = 94 then 13 else if b.toNat = 95 then 13 else if b.toNat = 92 then 0 else 1 := by
  have e1 : (b = 91) ↔ b.toNat = 91 := u8_eq b 91 (by omega)
  have e2 : (b = 93) ↔ b.toNat = 93 := u8_eq b 93 (by omega)
  have e3 : (b = 80) ↔ b.toNat = 80 := u8_eq b 80 (by omega)
  have e4 : (b = 88) ↔ b.toNat = 88 := u8_eq b 88 (by omega)
  have e5 : (b = 94) ↔ b.toNat = 94 := u8_eq b 94 (by omega)
  have e6 : (b = 95) ↔ b.toNat = 95 := u8_eq b 95 (by omega)
  have e7 : (b = 92) ↔ b.toNat = 92 := u8_eq b 92 (by omega)
  simp only [introP, e1, e2, e3, e4, e5, e6, e7]
theorem classP_le (b : UInt8) : classP b ≤ 6 := by
  rw [classP_nat]
  repeat' split
  all_goals omega
theorem ret_nat {a b : Nat} (h : a = b) : Ending.returned (.int .i64 (a : Int)) = .returned (.int .i64 (b : Int)) := by rw [h]

set_option maxRecDepth 1000000 in
theorem class_any (b : UInt8) (w : World) : Calls Tryd.prog 81 #[.int .u8 b.toNat] w fun e w' => e = .returned (.int .i64 (classP b)) ∧ w = w' := by
  have h := classP_nat b
  generalize classP b = c at h
  generalize b.toNat = m at h
  have H := Lib.hid h
  clear h
  go_enter Tryd.func81, Tryd.ntmps81
  go_wp2
  all_goals go_ret
  all_goals
    have h := H.out
    refine ⟨ret_nat (b := c) ?_, rfl⟩
    rw [h]
    repeat' split
    all_goals first | rfl | omega | (exfalso; simp only [beq_iff_eq, beq_eq_false_iff_ne, ne_eq] at *; omega)
set_option maxRecDepth 1000000 in
theorem intro_any (b : UInt8) (w : World) : Calls Tryd.prog 83 #[.int .u8 b.toNat] w fun e w' => e = .returned (.int .i64 (introP b)) ∧ w = w' := by
  have h := introP_nat b
  generalize introP b = c at h
  generalize b.toNat = m at h
  have H := Lib.hid h
  clear h
  go_enter Tryd.func83, Tryd.ntmps83
  go_wp2
  all_goals go_ret
  all_goals
    have h := H.out
    refine ⟨ret_nat (b := c) ?_, rfl⟩
    rw [h]
    repeat' split
    all_goals first | rfl | omega | (exfalso; simp only [beq_iff_eq, beq_eq_false_iff_ne, ne_eq] at *; omega)
/-- the answer lies in a box of its own -/
theorem ret_box {fn : Func} {R : Ending → World → Prop} {a : Act} {W : World} {p : Tmp} {cs : Array Value} {g : Nat} {t : TypeId} {fr : Nat × Nat} (h : fn.results = #[.cell p 39]) (hd : a.defers = []) (hp : a.tmps.getD p undef = .pointer (some ⟨g, 0, none⟩))
    (hg : W.heap[g]? = some (.cells cs t fr)) (h7 : cs.size = 7) (hR : R (.returned (.agg cs)) W) : bodyPost Tryd.prog fn R .ret a W :=
  bodyPost_ret (results_cell_row h _ _ g t cs fr _ hp hg Tryd.underlying39 rfl (by rw [h7]; kernel_rfl)) hd hR
/-- an action without parameters, in a new box -/
def NewAct (w : World) (a : ActD) (e : Ending) (w' : World) : Prop := e = .returned (actVal a (.slice none 0 0)) ∧ Below w.heap.size w w'
set_option maxRecDepth 1000000 in
theorem execute_any (b : UInt8) (w : World) : Calls Tryd.prog 66 #[.int .u8 b.toNat] w (NewAct w (exeA b)) := by
  go_enter Tryd.func66, Tryd.ntmps66
  go_wp2
  refine ret_box rfl rfl rfl (heap_alloc_new w _) rfl ?_
  exact ⟨rfl, (Below.refl _ _).alloc (Nat.le_refl _) _⟩

/-- between the making of the answer's box and its filling -/
structure BoxW (w : World) (g : Nat) (W : World) (S : PS) : Prop where
  box : ∃ z : Array Value, z.size = 7 ∧ W.heap[w.heap.size]? = some (.cells z 39 (0, 0))
  par : ParAt W g S
  touch : Touch (Only g) w W
  lt : g < w.heap.size
def StepPost (w : World) (g : Nat) (S : PS) (a : ActD) (e : Ending) (w' : World) : Prop :=
  ∃ pv, e = .returned (actVal a pv) ∧ IntRow w' w.heap.size pv a.ps ∧ ParAt w' g S ∧ Touch (Only g) w w'
section
variable {w W W' : World} {g : Nat} {S S' : PS}
theorem BoxW.start (h : ParAt w g S) (z : Array Value) (hz : z.size = 7) : BoxW w g (w.alloc (.cells z 39)) S :=
  ⟨⟨z, hz, heap_alloc_new w _⟩, h.below ((Below.refl _ _).alloc (Nat.le_refl _) _), Touch.alloc _ _ _, h.lt⟩
theorem BoxW.call (h : BoxW w g W S) (ht : Touch (Only g) W W') (hp : ParAt W' g S') : BoxW w g W' S' := by
  obtain ⟨⟨z, hz, hh⟩, h2, h3, h4⟩ := h
  exact ⟨⟨z, hz, (ht.block _ (Array.getElem?_eq_some_iff.1 hh).1 (fun e => by simp only [Only] at e; omega)).trans hh⟩, hp, h3.trans ht, h4⟩
theorem BoxW.below (h : BoxW w g W S) (hb : Below W.heap.size W W') : BoxW w g W' S := h.call (Touch.of_below hb) (h.par.below hb)
theorem BoxW.setSt (h : BoxW w g W S) (k : Nat) (hk : k ≤ 13) : BoxW w g (W.setCell ⟨g, 1, none⟩ (.int .i64 k)) { S with st := k } := h.call (only_set _ _ _ _) (h.par.setSt k hk)
theorem BoxW.setPriv (h : BoxW w g W S) (b : UInt8) : BoxW w g (W.setCell ⟨g, 7, none⟩ (.int .u8 b.toNat)) { S with priv := b } := h.call (only_set _ _ _ _) (h.par.setPriv b)
theorem BoxW.setFin (h : BoxW w g W S) (b : UInt8) : BoxW w g (W.setCell ⟨g, 8, none⟩ (.int .u8 b.toNat)) { S with fin := b } := h.call (only_set _ _ _ _) (h.par.setFin b)
theorem BoxW.size (h : BoxW w g W S) : w.heap.size < W.heap.size := by
  obtain ⟨⟨z, hz, hh⟩, _⟩ := h
  exact (Array.getElem?_eq_some_iff.1 hh).1
/-- the box is filled -/
theorem BoxW.fin (h : BoxW w g W S) {a : ActD} {pv : Value} (hI : IntRow W w.heap.size pv a.ps) (cs : Array Value) (hcs : cs = #[.int .i64 a.kind, .int .i32 a.rune, .int .u8 a.fin.toNat, .int .u8 a.priv.toNat, pv, str a.inter, str a.text]) :
    (W.setRow w.heap.size cs).heap[w.heap.size]? = some (.cells cs 39 (0, 0)) ∧ StepPost w g S a (.returned (.agg cs)) (W.setRow w.heap.size cs) := by
  obtain ⟨⟨z, hz, hh⟩, h2, h3, h4⟩ := h
  refine ⟨setRow_heap W _ z cs _ _ hh, pv, by rw [hcs], ?_, h2.same (setRow_other _ _ _ _ (by omega)), ?_⟩
  · refine ⟨hI.1, ?_⟩
    rcases hI.2 with h0 | ⟨k, cap, cur, hv, hb, hk, r⟩
    · exact .inl h0
    · refine .inr ⟨k, cap, cur, hv, hb, (setRow_other _ _ _ _ (fun e => ?_)).trans hk, r⟩
      subst e
      rw [hh] at hk
      injection hk with hk
      injection hk with _ ht
      exact types_ne.1 ht.symm
  · exact ⟨h3.os, h3.tape, h3.output, by rw [setRow_size]; exact h3.size, fun k hk hn => (setRow_other _ _ _ _ (by omega)).trans (h3.block k hk hn)⟩
/-- it was never filled but with zeroes -/
theorem BoxW.fin0 (h : BoxW w g W S) (a : ActD) (ha : a.ps = []) (cs : Array Value) (hcs : cs = #[.int .i64 a.kind, .int .i32 a.rune, .int .u8 a.fin.toNat, .int .u8 a.priv.toNat, .slice none 0 0, str a.inter, str a.text]) :
    (W.setRow w.heap.size cs).heap[w.heap.size]? = some (.cells cs 39 (0, 0)) ∧ StepPost w g S a (.returned (.agg cs)) (W.setRow w.heap.size cs) :=
  h.fin (pv := .slice none 0 0) (by rw [ha]; exact IntRow.nil _ _) cs hcs
end
theorem act_size : (Tryd.prog.info? 39).map (·.size) = some 7 := by kernel_rfl

/-- an action is stored into its box -/
theorem wpList_store_act {ops : Array Oper} {rest : List Oper} {o : Oper} {a : Act} {w : World} {Q : Exit → Act → World → Prop} (hgd : o.guard = none) (x y : Operand) (ho : o.op = .store 39 x y) (g : Nat) (cells : Array Value) (hx : a.eval x = .pointer (some ⟨g, 0, none⟩)) (hy : a.eval y = .agg cells)
    {old : Array Value} (hold : old.size = 7) (hg : w.heap[g]? = some (.cells old 39 (0, 0))) (h7 : cells.size = 7) (h1 : cells.toList.all (·.oneCell') = true) (h : wpList Tryd.prog ops Q rest (a.put o.dst undef) (w.setRow g cells)) : wpList Tryd.prog ops Q (o :: rest) a w :=
  wpList_store_row hgd _ x y ho g cells hx hy _ old hg (by rw [h7]; exact act_size) (by rw [hold, h7]) (by rw [← Array.all_toList]; exact h1) h
theorem BoxW.at {w W : World} {g : Nat} {S : PS} (h : BoxW w g W S) : W.heap[w.heap.size]? = some (.cells (h.box.choose) 39 (0, 0)) := h.box.choose_spec.2
theorem BoxW.seven {w W : World} {g : Nat} {S : PS} (h : BoxW w g W S) : h.box.choose.size = 7 := h.box.choose_spec.1

set_option maxRecDepth 1000000 in
theorem enter_any (w : World) (g : Nat) (S : PS) (n : Nat) (h : ParAt w g S) (hn : n ≤ 9) : Calls Tryd.prog 85 #[.pointer (some ⟨g, 0, none⟩), .int .i64 n] w fun e w' => e = .returned (.tuple #[]) ∧ ParAt w' g (enterP S n) ∧ Touch (Only g) w w' := by
  have c1 := h.st
  have f1 := h.frozen 1
  have H := Lib.hid h
  have hs : (S.st : Int) ≤ 13 := by have := h.st13; omega
  clear h
  by_cases h7 : 7 ≤ S.st
  · have i7 : ((7 : Int) ≤ (S.st : Int)) = True := by simp; omega
    have HN := Lib.hid hn
    have HE : Hid (enterP S n = { S with st := n + 4 }) := Lib.hid (by unfold enterP; rw [if_pos h7])
    have hw : wrap64 ((n : Int) + 4) = ((n + 4 : Nat) : Int) := by unfold wrap64; omega
    clear h7 hs hn
    go_enter Tryd.func85, Tryd.ntmps85
    go_wp2
    go_end0
    rw [HE.out]
    exact ⟨rfl, H.out.setSt (n + 4) (by have := HN.out; omega), only_set _ _ _ _⟩
  · have i7 : ((7 : Int) ≤ (S.st : Int)) = False := by simp; omega
    have HN := Lib.hid hn
    have HE : Hid (enterP S n = { S with st := n }) := Lib.hid (by unfold enterP; rw [if_neg h7])
    clear h7 hs hn
    go_enter Tryd.func85, Tryd.ntmps85
    go_wp2
    go_end0
    rw [HE.out]
    exact ⟨rfl, H.out.setSt n (by have := HN.out; omega), only_set _ _ _ _⟩

set_option maxRecDepth 1000000 in
theorem ground_any (b : UInt8) (w : World) : Calls Tryd.prog 82 #[.int .u8 b.toNat, .int .i64 (classP b)] w (NewAct w (groundA b)) := by
  have CE := Lib.hid fun W => execute_any b W
  have h : groundA b = if classP b = 0 then exeA b else if classP b = 6 then noneA else printA b.toNat := rfl
  have hb := b.toNat_lt
  have wr : IntKind.i32.wrap (b.toNat : Int) = (b.toNat : Int) := by
    rw [IntKind.wrap_i32]
    omega
  clear hb
  rcases Nat.lt_or_ge 0 (classP b) with hc | hc
  · by_cases h6 : classP b = 6
    · rw [h6] at h ⊢
      have H := Lib.hid h
      clear h hc h6
      go_enter Tryd.func82, Tryd.ntmps82
      go_wp2
      refine ret_box rfl rfl rfl (heap_alloc_new w _) rfl ?_
      rw [H.out]
      exact ⟨rfl, (Below.refl _ _).alloc (Nat.le_refl _) _⟩
    · rw [if_neg (by omega), if_neg h6] at h
      have H := Lib.hid h
      have n0 : ((classP b : Int) == 0) = false := by simp; omega
      have n6 : ((classP b : Int) == 6) = false := by simp; omega
      clear h hc h6
      go_enter Tryd.func82, Tryd.ntmps82
      go_wp2
      refine ret_box rfl rfl rfl (heap_alloc_new w _) rfl ?_
      rw [H.out]
      exact ⟨rfl, (Below.refl _ _).alloc (Nat.le_refl _) _⟩
  · obtain hc0 : classP b = 0 := by omega
    rw [hc0] at h ⊢
    have H := Lib.hid h
    clear h hc hc0
    go_enter Tryd.func82, Tryd.ntmps82
    go_upto_region 1 with (fail)
    have HX := Lib.hid (heap_alloc_new w (.cells #[.int .i64 0, .int .i32 0, .int .u8 0, .int .u8 0, .slice none 0 0, .string ⟨#[]⟩, .string ⟨#[]⟩] 39))
    have HB := Lib.hid ((Below.refl w.heap.size w).alloc (Nat.le_refl _) (.cells #[.int .i64 0, .int .i32 0, .int .u8 0, .int .u8 0, .slice none 0 0, .string ⟨#[]⟩, .string ⟨#[]⟩] 39))
    generalize w.alloc (.cells #[.int .i64 0, .int .i32 0, .int .u8 0, .int .u8 0, .slice none 0 0, .string ⟨#[]⟩, .string ⟨#[]⟩] 39) = W0 at *
    go_wp2_with (first
      | (go_at_call 66; refine (CE.out _).mono ?_; rintro e w1 ⟨rfl, hb1⟩; have HX1 := Lib.hid ((hb1.block _ (Array.getElem?_eq_some_iff.1 HX.out).1).trans HX.out); have HB1 := Lib.hid (HB.out.trans (hb1.mono HB.out.size)); clear hb1)
      | (refine wpList_store_act (by rfl) _ _ (by rfl) w.heap.size _ (by rfl) (by rfl) (by rfl) HX1.out (by rfl) (by rfl) ?_))
    refine ret_box rfl rfl rfl (setRow_heap _ _ _ _ _ _ HX1.out) rfl ?_
    rw [H.out]
    exact ⟨rfl, below_setRow HB1.out (Nat.le_refl _) _⟩
end Go.Proofs.YtjoiagaadofndaaDoor
