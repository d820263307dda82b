/-
  What the evaluator of package tparm does to its stack, its parameters and its output.
-/
import Derived.Test.YtapihomdfdhnnaaDoorTpMach
namespace Go.Proofs.YtapihomdfdhnnaaDoor
open Go.RowKit Go.Shelf Go.Lib Go.Maps
attribute [local go_sem] Oper.semAt_some

theorem MachAt.notK {W : World} {B mb vb bm : Nat} {K : Nat → Prop} {pv sv ov : Value} {m : MD} (h : MachAt W B K mb vb bm pv sv ov m) : ¬ K mb := fun hk => (h.free mb hk).2.1 rfl
/-- the evaluator stands so, its rows wherever they lie -/
def MachX (W : World) (B : Nat) (K : Nat → Prop) (mb vb bm : Nat) (m : MD) : Prop := ∃ pv sv ov, MachAt W B K mb vb bm pv sv ov m
/-- the blocks that evaluation turns -/
def Turns (B bm : Nat) (K : Nat → Prop) (k : Nat) : Prop := (k = bm ∨ B ≤ k) ∧ ¬ K k
def OpPost (w : World) (B : Nat) (K : Nat → Prop) (mb vb bm : Nat) (m : MD) (v : Value) (e : Ending) (w' : World) : Prop := e = .returned v ∧ MachX w' B K mb vb bm m ∧ Touch (Turns B bm K) w w'
theorem MachX.below {W W' : World} {B mb vb bm : Nat} {K : Nat → Prop} {m : MD} (h : MachX W B K mb vb bm m) (hb : Below W.heap.size W W') : MachX W' B K mb vb bm m := by
  obtain ⟨pv, sv, ov, h⟩ := h
  exact ⟨pv, sv, ov, h.below hb⟩
/-- one block more that stays -/
theorem MachX.keep {W : World} {B mb vb bm : Nat} {K : Nat → Prop} {m : MD} (h : MachX W B K mb vb bm m) (o : Obj) (ho : ∀ cur, o ≠ .cells cur 5 (0, 0)) : MachX (W.alloc o) B (fun k => K k ∨ k = W.heap.size) mb vb bm m := by
  obtain ⟨pv, sv, ov, h⟩ := h
  have hb := (Below.refl W.heap.size W).alloc (Nat.le_refl _) o
  have h2 := h.below hb
  refine ⟨pv, sv, ov, h2.box, h2.base, h2.prow, h2.srow, h2.orow, h2.apart, h2.vars, h2.older, fun k hk => ?_, h2.small⟩
  rcases hk with hk | rfl
  · exact h2.free k hk
  · refine ⟨by simp, fun e => ?_, fun e => ?_, fun e => ?_, fun e => ?_, fun e => ?_, fun cur e => ?_⟩
    · have := h.lt; omega
    · have := h.vars.lt.2; omega
    · have := (own_lt h.prow _ e).2; omega
    · have := (own_lt h.srow _ e).2; omega
    · have := (own_lt h.orow _ e).2; omega
    · rw [alloc_new] at e
      exact ho cur (Option.some.inj e)
theorem MachX.less {W : World} {B mb vb bm : Nat} {K K' : Nat → Prop} {m : MD} (h : MachX W B K mb vb bm m) (hK : ∀ k, K' k → K k) : MachX W B K' mb vb bm m := by
  obtain ⟨pv, sv, ov, h⟩ := h
  exact ⟨pv, sv, ov, h.box, h.base, h.prow, h.srow, h.orow, h.apart, h.vars, h.older, fun k hk => h.free k (hK k hk), h.small⟩
theorem turns_less {B bm : Nat} {K K' : Nat → Prop} {w w' : World} (h : Touch (Turns B bm K) w w') (hK : ∀ k, K' k → K k) : Touch (Turns B bm K') w w' := h.mono fun k _ ⟨h1, h2⟩ => ⟨h1, fun e => h2 (hK k e)⟩
theorem MachX.lt {W : World} {B mb vb bm : Nat} {K : Nat → Prop} {m : MD} (h : MachX W B K mb vb bm m) : mb < W.heap.size ∧ B ≤ mb ∧ vb < B ∧ bm < B := by
  obtain ⟨pv, sv, ov, h⟩ := h
  exact ⟨h.lt, h.base, h.older⟩
theorem turns_set {B bm : Nat} {K : Nat → Prop} (w : World) (a : Addr) (v : Value) (h : B ≤ a.block) (hK : ¬ K a.block) : Touch (Turns B bm K) w (w.setCell a v) := Touch.setCell w a v ⟨.inr h, hK⟩
theorem touch_new {B bm : Nat} {K : Nat → Prop} {w w' : World} (hb : Below w.heap.size w w') : Touch (Turns B bm K) w w' := Touch.of_below hb

set_option maxRecDepth 100000 in
set_option maxHeartbeats 2000000 in
theorem write_any (w : World) (B : Nat) (K : Nat → Prop) (mb vb bm : Nat) (m : MD) (h : MachX w B K mb vb bm m) (x : List UInt8) (hx : x.length ≤ 1000000000) :
    Calls Tryd.prog 45 #[.pointer (some ⟨mb, 0, none⟩), str x] w (if 16384 < m.out.length + x.length then OpPost w B K mb vb bm m (.int .i64 3) else OpPost w B K mb vb bm { m with out := m.out ++ x } (.int .i64 0)) := by
  obtain ⟨pv, sv, ov, hm⟩ := h
  obtain ⟨A, cap, rfl⟩ := hm.orow.form
  obtain ⟨c0, c1, c2, c3, c4⟩ := hm.cells
  have f3 := hm.frozen 3
  have HM := Lib.hid hm
  have hs := hm.small.2.2.1
  have i1 : (m.out.length : Int) ≤ 16384 := by omega
  have i2 : (m.out.length : Int) + (x.length : Int) ≤ 2000000000 := by omega
  clear hm hs
  by_cases hl : 16384 < m.out.length + x.length
  · rw [if_pos hl]
    have i3 : (16384 : Int) < (m.out.length : Int) + (x.length : Int) := by omega
    clear hl
    go_enter Tryd.func45, Tryd.ntmps45
    go_wp2_with fail
    go_ret
    exact ⟨rfl, ⟨_, _, _, HM.out⟩, Touch.refl _ _⟩
  · rw [if_neg hl]
    have i3 : ¬ (16384 : Int) < (m.out.length : Int) + (x.length : Int) := by omega
    have HL := Lib.hid hl
    clear hl
    go_enter Tryd.func45, Tryd.ntmps45
    go_wp2_with (at_builtin; refine wpList_append_text (by rfl) (.tmp 18) (.tmp 19) (by rfl) B (.slice A m.out.length cap) m.out (by rfl) HM.out.orow x (by rfl) (by have := HL.out; omega) HM.out.baseLt ?_; intro v' w' hr' hg'; obtain ⟨A2, cap2, hv2⟩ := hr'.form; rw [List.length_append] at hv2; subst hv2; have hW := HM.out.wrote hr' hg' (by have := HL.out; omega); obtain ⟨d3, g3, hW⟩ := hW; have HW := Lib.hid hW; have HG := Lib.hid hg'; clear hr' hg' hW)
    go_ret
    exact ⟨rfl, ⟨_, _, _, HW.out⟩, (Touch.of_grown HG.out fun k hk => ⟨.inr (own_lt HM.out.orow k hk).1, fun hK => (HM.out.free k hK).2.2.2.2.2.1 hk⟩).trans (turns_set _ _ _ HM.out.base HM.out.notK)⟩

set_option maxRecDepth 100000 in
set_option maxHeartbeats 2000000 in
theorem pop_any (w : World) (B : Nat) (K : Nat → Prop) (mb vb bm : Nat) (m : MD) (h : MachX w B K mb vb bm m) :
    Calls Tryd.prog 44 #[.pointer (some ⟨mb, 0, none⟩)] w (OpPost w B K mb vb bm (popM m) (prmVal (topP m))) := by
  obtain ⟨pv, sv, ov, hm⟩ := h
  obtain ⟨A, cap, rfl⟩ := hm.srow.form
  obtain ⟨c0, c1, c2, c3, c4⟩ := hm.cells
  have f2 := hm.frozen 2
  have hlt := hm.lt
  by_cases h0 : m.stack.length = 0
  · have he : m.stack = [] := List.eq_nil_of_length_eq_zero h0
    have HP := Lib.hid (show popM m = m ∧ topP m = prm0 by unfold popM topP; rw [he]; exact ⟨by rw [List.dropLast_nil, ← he], rfl⟩)
    have HM := Lib.hid hm
    rw [h0] at c2
    clear hm he h0
    go_enter Tryd.func44, Tryd.ntmps44
    go_wp2_with fail
    exact bodyPost_ret (v := .agg #[.int .i32 0, str [], .bool false]) (by simp [results, Tryd.results44, go_sem]) rfl ⟨by rw [HP.out.2]; rfl, by rw [HP.out.1]; exact ⟨_, _, _, HM.out.below ((Below.refl _ _).alloc (Nat.le_refl _) _)⟩, touch_new ((Below.refl _ _).alloc (Nat.le_refl _) _)⟩
  · obtain ⟨n, hn⟩ : ∃ n, m.stack.length = n + 1 := ⟨m.stack.length - 1, by omega⟩
    obtain ⟨p, hp⟩ : ∃ p, m.stack[n]? = some p := ⟨_, List.getElem?_eq_getElem (by omega)⟩
    have HT := Lib.hid (show topP m = p by unfold topP; rw [List.getLast?_eq_getElem?, hn, Nat.add_sub_cancel, hp]; rfl)
    obtain ⟨g, rfl, hcap, hg, d0, d1, d2, _⟩ := hm.srow.cells hp
    rw [hn] at c2 hcap
    have hsl : ∀ W, (Instr.slice 44 (.slice (some ⟨g, 0, none⟩) (n + 1) cap) none (some (.int .i64 (n : Int))) none).run Tryd.prog W = .ok (.slice (some ⟨g, 0, none⟩) n cap) W := fun W =>
      slice_head (P := Tryd.prog) 44 32 Tryd.underlying44 3 (fun w => by kernel_rfl) _ _ _ n (by omega) W
    have HC : ∀ W : World, MachAt W B K mb vb bm pv (.slice (some ⟨g, 0, none⟩) m.stack.length cap) ov m → MachAt (W.setCell ⟨mb, 2, none⟩ (.slice (some ⟨g, 0, none⟩) n cap)) B K mb vb bm pv (.slice (some ⟨g, 0, none⟩) n cap) ov (popM m) := fun W hW => by
      have := hW.cut rfl
      rwa [hn, Nat.add_sub_cancel] at this
    have HC := Lib.hid HC
    have HM := Lib.hid hm
    have i0 : (n : Int) ≤ 64 := by have := hm.small.2.1; omega
    have i1 : (n : Int) < ((n + 1 : Nat) : Int) := by omega
    have i2 : (0 : Int) ≤ (n : Int) := by omega
    have hne1 : mb ≠ w.heap.size := by omega
    have hne2 : mb ≠ w.heap.size + 1 := by omega
    clear hm hn hp h0
    go_enter Tryd.func44, Tryd.ntmps44
    go_wp2_with fail
    have hT : Touch (Turns B bm K) w (w.setCell ⟨mb, 2, none⟩ (.slice (some ⟨g, 0, none⟩) n cap)) := turns_set _ _ _ HM.out.base HM.out.notK
    have hB : ∀ (W : World) (o1 o2 : Obj), Below W.heap.size W ((W.alloc o1).alloc o2) := fun W o1 o2 => ((Below.refl _ _).alloc (Nat.le_refl _) _).alloc (by simp) _
    exact bodyPost_ret (v := prmVal p) (by simp [results, Tryd.results44, go_sem]) rfl ⟨by rw [HT.out], ⟨_, _, _, (HC.out _ HM.out).below (hB _ _ _)⟩, hT.trans (touch_new (hB _ _ _))⟩

theorem param_none (w : World) (B : Nat) (K : Nat → Prop) (mb vb bm : Nat) (m : MD) (h : MachX w B K mb vb bm m) (d : Nat) (hd : m.params.length < d) :
    Calls Tryd.prog 49 #[.pointer (some ⟨mb, 0, none⟩), .int .i64 (d : Int)] w (OpPost w B K mb vb bm m (prmVal (paramP m d))) := by
  obtain ⟨pv, sv, ov, hm⟩ := h
  obtain ⟨A, cap, rfl⟩ := hm.prow.form
  obtain ⟨c0, c1, c2, c3, c4⟩ := hm.cells
  have HP := Lib.hid (show paramP m d = prm0 by unfold paramP; rw [if_pos (by omega)])
  have HM := Lib.hid hm
  have hlt := hm.lt
  have i1 : (m.params.length : Int) < (d : Int) := by omega
  clear hm hd
  go_enter Tryd.func49, Tryd.ntmps49
  go_wp2_with fail
  exact bodyPost_ret (v := .agg #[.int .i32 0, str [], .bool false]) (by simp [results, Tryd.results49, go_sem]) rfl ⟨by rw [HP.out]; rfl, ⟨_, _, _, HM.out.below ((Below.refl _ _).alloc (Nat.le_refl _) _)⟩, touch_new ((Below.refl _ _).alloc (Nat.le_refl _) _)⟩
set_option maxRecDepth 100000 in
theorem param_some (w : World) (B : Nat) (K : Nat → Prop) (mb vb bm : Nat) (m : MD) (h : MachX w B K mb vb bm m) (d : Nat) (hd : d < m.params.length) :
    Calls Tryd.prog 49 #[.pointer (some ⟨mb, 0, none⟩), .int .i64 ((d + 1 : Nat) : Int)] w (OpPost w B K mb vb bm m (prmVal (paramP m ((d + 1 : Nat) : Int)))) := by
  obtain ⟨pv, sv, ov, hm⟩ := h
  obtain ⟨A, cap, rfl⟩ := hm.prow.form
  obtain ⟨p, hp⟩ : ∃ p, m.params[d]? = some p := ⟨_, List.getElem?_eq_getElem hd⟩
  obtain ⟨g, rfl, hcap, hg, d0, d1, d2, _⟩ := hm.prow.cells hp
  obtain ⟨c0, c1, c2, c3, c4⟩ := hm.cells
  have HP := Lib.hid (show paramP m ((d + 1 : Nat) : Int) = p by unfold paramP; rw [if_neg (by omega), show ((((d + 1 : Nat) : Int)) - 1).toNat = d by omega, List.getD_eq_getElem?_getD, hp]; rfl)
  have HM := Lib.hid hm
  have i0 : (d : Int) ≤ 9 := by have := hm.small.1; omega
  have i1 : ¬ (m.params.length : Int) < (d : Int) + 1 := by omega
  have i2 : (0 : Int) ≤ (d : Int) := by omega
  have i3 : (d : Int) < (m.params.length : Int) := by omega
  have i4 : (d : Int) + 1 - 1 = (d : Int) := by omega
  have hlt := hm.lt
  generalize paramP m ((d + 1 : Nat) : Int) = r at *
  rw [Int.natCast_add]
  clear hm hp
  show Calls Tryd.prog 49 #[.pointer (some ⟨mb, 0, none⟩), .int .i64 ((d : Int) + 1)] w _
  go_enter Tryd.func49, Tryd.ntmps49
  go_wp2_with fail
  exact bodyPost_ret (v := prmVal p) (by simp [results, Tryd.results49, go_sem]) rfl ⟨by rw [HP.out], ⟨_, _, _, HM.out.below ((Below.refl _ _).alloc (Nat.le_refl _) _)⟩, touch_new ((Below.refl _ _).alloc (Nat.le_refl _) _)⟩
theorem param_any (w : World) (B : Nat) (K : Nat → Prop) (mb vb bm : Nat) (m : MD) (h : MachX w B K mb vb bm m) (d : Nat) (h1 : 1 ≤ d) :
    Calls Tryd.prog 49 #[.pointer (some ⟨mb, 0, none⟩), .int .i64 (d : Int)] w (OpPost w B K mb vb bm m (prmVal (paramP m d))) := by
  by_cases hd : m.params.length < d
  · exact param_none w B K mb vb bm m h d hd
  · obtain ⟨k, rfl⟩ : ∃ k, d = k + 1 := ⟨d - 1, by omega⟩
    exact param_some w B K mb vb bm m h k (by omega)

set_option maxRecDepth 100000 in
set_option maxHeartbeats 2000000 in
theorem push_any (w : World) (B : Nat) (K : Nat → Prop) (mb vb bm : Nat) (m : MD) (h : MachX w B K mb vb bm m) (p : PrmD) :
    Calls Tryd.prog 48 #[.pointer (some ⟨mb, 0, none⟩), prmVal p] w (if m.stack.length = 64 then OpPost w B K mb vb bm m (.int .i64 41) else OpPost w B K mb vb bm (pushM m p) (.int .i64 0)) := by
  obtain ⟨pv, sv, ov, hm⟩ := h
  obtain ⟨A, cap, rfl⟩ := hm.srow.form
  have hlt := hm.lt
  have hB : ∀ (W : World) (o1 : Obj), Below W.heap.size W (W.alloc o1) := fun W o1 => (Below.refl _ _).alloc (Nat.le_refl _) _
  by_cases h0 : m.stack.length = 64
  · rw [if_pos h0]
    have HM := Lib.hid hm
    obtain ⟨c0, c1, c2, c3, c4⟩ := hm.cells
    rw [h0] at c2
    clear hm
    go_enter Tryd.func48, Tryd.ntmps48
    go_wp2_with fail
    go_ret
    exact ⟨rfl, ⟨_, _, _, HM.out.below (hB _ _)⟩, touch_new (hB _ _)⟩
  · rw [if_neg h0]
    have h64 := hm.small.2.1
    have hl : m.stack.length < 64 := by omega
    have hq : ((m.stack.length : Int) == 64) = false := by simp; omega
    have HL := Lib.hid hl
    have HM := Lib.hid hm
    obtain ⟨c0, c1, c2, c3, c4⟩ := hm.cells
    have f2 := hm.frozen 2
    have hm1 := hm.below ((((Below.refl _ w).alloc (Nat.le_refl _) (.cells #[.int .i32 p.num, str p.text, .bool p.is] 32)).drew).alloc (by simp) (.cells #[.int .i32 p.num, str p.text, .bool p.is] 32))
    have HM1 := Lib.hid hm1
    have HB1 := Lib.hid ((((Below.refl _ w).alloc (Nat.le_refl _) (.cells #[.int .i32 p.num, str p.text, .bool p.is] 32)).drew).alloc (by simp) (.cells #[.int .i32 p.num, str p.text, .bool p.is] 32))
    have k2 : ((w.alloc (.cells #[.int .i32 p.num, str p.text, .bool p.is] 32)).alloc (.cells #[.int .i32 p.num, str p.text, .bool p.is] 32)).cell? ⟨mb, 2, none⟩ = some (.slice A m.stack.length cap) := hm1.cells.2.2.1
    clear hm hm1 h64 hl h0
    go_enter Tryd.func48, Tryd.ntmps48
    go_wp2_with fail
    go_region_law (refine step_append_prm (by rfl) (.tmp 15) (.tmp 17) (by rfl) B (.slice A m.stack.length cap) m.stack (by rfl) HM1.out.srow p (by rfl) (alloc_two w _ _) (by rfl) (by have := HL.out; omega) HM1.out.baseLt ?_; intro v' w' hr' hg' hv2; obtain ⟨A', c', hv'⟩ := hr'.form; rw [List.length_append] at hv'; subst hv'; obtain ⟨d2, g2, hW⟩ := HM1.out.grow hr' hg' hv2 HL.out; have HW := Lib.hid hW; have HG := Lib.hid hg'; clear hr' hg' hv2 hW)
    all_goals
      go_wp2
      go_ret
      refine ⟨rfl, ⟨_, _, _, HW.out⟩, (touch_new HB1.out).trans ((Touch.of_grown HG.out fun k hk => ⟨.inr (own_lt HM.out.srow k hk).1, fun hK => (HM.out.free k hK).2.2.2.2.1 hk⟩).trans (turns_set _ _ _ HM.out.base HM.out.notK))⟩

/-! ### the first two parameters -/
def incs (k : Nat) (l : List PrmD) : List PrmD := (l.take k).zipIdx.map (fun x => incP x.2 x.1) ++ l.drop k
theorem incs_length (k : Nat) (l : List PrmD) : (incs k l).length = l.length := by
  simp [incs]
  omega
theorem incs_at (k : Nat) (l : List PrmD) (i : Nat) : (incs k l)[i]? = if i < k then (l[i]?).map (incP i) else l[i]? := by
  unfold incs
  by_cases h : i < k
  · rw [if_pos h]
    by_cases hl : i < l.length
    · rw [List.getElem?_append_left (by simp; omega)]
      simp [List.getElem?_zipIdx, h]
      rfl
    · rw [List.getElem?_append_right (by simp; omega)]
      simp [List.getElem?_eq_none (Nat.le_of_not_lt hl)]
      omega
  · rw [if_neg h]
    by_cases hl : k ≤ l.length
    · rw [List.getElem?_append_right (by simp; omega)]
      simp [Nat.min_eq_left hl]
      congr 1
      omega
    · rw [List.getElem?_eq_none (by simp; omega), List.getElem?_eq_none (by omega)]
theorem incs_step {k : Nat} {l : List PrmD} {p : PrmD} (hp : l[k]? = some p) : incs (k + 1) l = (incs k l).set k (incP k p) := by
  apply List.ext_getElem?
  intro i
  rw [incs_at, List.getElem?_set, incs_at, incs_length]
  have hlt := (List.getElem?_eq_some_iff.1 hp).1
  by_cases h : k = i
  · subst h
    rw [if_pos (by omega), if_pos rfl, if_pos hlt, hp]
    rfl
  · rw [if_neg h]
    by_cases h2 : i < k
    · simp [h2, show i < k + 1 by omega]
    · simp [h2, show ¬ i < k + 1 by omega]
theorem incs_same {k : Nat} {l : List PrmD} {p : PrmD} (hp : l[k]? = some p) (h : incP k p = p) : incs (k + 1) l = incs k l := by
  rw [incs_step hp, h]
  apply List.ext_getElem?
  intro i
  rw [List.getElem?_set]
  split
  · next e =>
    subst e
    rw [incs_length, if_pos (List.getElem?_eq_some_iff.1 hp).1, incs_at, if_neg (by omega), hp]
  · rfl
def incM (m : MD) : MD := { m with params := incs m.params.length m.params }
theorem prm_set {W : World} {B g n cap i : Nat} {l : List PrmD} {p : PrmD} (h : PrmRow W B (.slice (some ⟨g, 0, none⟩) n cap) l) (hi : l[i]? = some p) (z : Int) : PrmRow (W.setCell ⟨g, i * 3, none⟩ (.int .i32 z)) B (.slice (some ⟨g, 0, none⟩) n cap) (l.set i { p with num := z }) := by
  obtain ⟨h1, h2⟩ := h
  have hlt := (List.getElem?_eq_some_iff.1 hi).1
  rcases h2 with ⟨e, h0⟩ | ⟨g', cap', cur, e, hb, hh, hn, hcm, hs, ht⟩
  · cases e
  · injection e with e1 e2 e3
    injection e1 with e1
    injection e1 with e1
    subst e1 e2 e3
    refine ⟨by rw [prmVals_length], .inr ⟨g, cap, _, by rw [List.length_set], hb, heap_setCell_same W g (i * 3) _ _ _ hh, by rw [List.length_set]; exact hn, hcm, by simp [hs], ?_⟩⟩
    rw [List.length_set, Array.toList_setIfInBounds, List.take_set, ht]
    apply List.ext_getElem?
    intro j
    rw [List.getElem?_set]
    by_cases hj : i * 3 = j
    · subst hj
      rw [if_pos rfl, if_pos (by rw [prmVals_length]; omega)]
      have := prmVals_at (l := l.set i { p with num := z }) (i := i) (c := { p with num := z }) (by rw [List.getElem?_set]; simp [hlt]) 0 (by omega)
      rw [Nat.add_zero] at this
      rw [this]
      rfl
    · rw [if_neg hj]
      by_cases hjl : j < l.length * 3
      · obtain ⟨q, hq⟩ : ∃ q, l[j / 3]? = some q := ⟨_, List.getElem?_eq_getElem (by omega)⟩
        have e1 := prmVals_at hq (j % 3) (Nat.mod_lt _ (by omega))
        rw [show j / 3 * 3 + j % 3 = j by omega] at e1
        by_cases hi2 : i = j / 3
        · subst hi2
          have hpq : q = p := by rw [hi] at hq; injection hq with hq; exact hq.symm
          subst hpq
          have e2 := prmVals_at (l := l.set (j / 3) { q with num := z }) (i := j / 3) (c := { q with num := z }) (by rw [List.getElem?_set]; simp [hlt]) (j % 3) (Nat.mod_lt _ (by omega))
          rw [show j / 3 * 3 + j % 3 = j by omega] at e2
          rw [e1, e2]
          have h3 : j % 3 = 1 ∨ j % 3 = 2 := by omega
          rcases h3 with h3 | h3 <;> rw [h3] <;> rfl
        · have e2 := prmVals_at (l := l.set i { p with num := z }) (i := j / 3) (c := q) (by rw [List.getElem?_set]; simp [hi2, hq]) (j % 3) (Nat.mod_lt _ (by omega))
          rw [show j / 3 * 3 + j % 3 = j by omega] at e2
          rw [e1, e2]
      · rw [List.getElem?_eq_none (by rw [prmVals_length]; omega), List.getElem?_eq_none (by rw [prmVals_length, List.length_set]; omega)]
theorem MachAt.incr {W : World} {B mb vb bm g n cap i : Nat} {K : Nat → Prop} {sv ov : Value} {m : MD} {p : PrmD} (h : MachAt W B K mb vb bm (.slice (some ⟨g, 0, none⟩) n cap) sv ov m) (hi : m.params[i]? = some p) (z : Int) : MachAt (W.setCell ⟨g, i * 3, none⟩ (.int .i32 z)) B K mb vb bm (.slice (some ⟨g, 0, none⟩) n cap) sv ov { m with params := m.params.set i { p with num := z } } := by
  have hg : g ≠ mb := h.pne rfl
  have hb : B ≤ g := (own_lt h.prow g rfl).1
  exact ⟨(Below.heap_setCell _ _ _ _ (Ne.symm hg)).trans h.box, h.base, prm_set h.prow hi z, own_same h.srow fun j hj => Below.heap_setCell _ _ _ _ fun e => h.apart g rfl (by rw [hj]; exact congrArg some e), own_same h.orow fun j hj => Below.heap_setCell _ _ _ _ fun e => h.po (k := g) rfl (by rw [hj]; exact congrArg some e), h.apart, h.vars.same (Below.heap_setCell _ _ _ _ (by have := h.older.1; simp; omega)) (Below.heap_setCell _ _ _ _ (by have := h.older.2; simp; omega)), h.older, fun k hk => by
    obtain ⟨a1, a2, a3, a4, a5, a6, a7⟩ := h.free k hk
    have hkg : k ≠ g := fun e => a4 (by rw [e]; rfl)
    exact ⟨by simpa using a1, a2, a3, a4, a5, a6, fun cur => by rw [Below.heap_setCell _ _ _ _ hkg]; exact a7 cur⟩, by simpa using h.small.1, h.small.2⟩
def IncR (w : World) (B : Nat) (K : Nat → Prop) (mb vb bm : Nat) (pv sv ov : Value) (m : MD) (a : Value) (wr : World) : Prop := ∃ k : Nat, a = .int .i64 k ∧ k ≤ m.params.length ∧ MachAt wr B K mb vb bm pv sv ov { m with params := incs k m.params } ∧ Touch (Turns B bm K) w wr
theorem IncR.next {w W : World} {B mb vb bm k : Nat} {K : Nat → Prop} {pv sv ov : Value} {m : MD} {p : PrmD} (hk : k < m.params.length) (_ : m.params[k]? = some p) (hm : MachAt W B K mb vb bm pv sv ov { m with params := incs (k + 1) m.params }) (ht : Touch (Turns B bm K) w W) (o : Obj) : IncR w B K mb vb bm pv sv ov m (.int .i64 ((k : Int) + 1)) (W.alloc o) :=
  ⟨k + 1, by simp, hk, hm.below ((Below.refl _ _).alloc (Nat.le_refl _) _), ht.trans (touch_new ((Below.refl _ _).alloc (Nat.le_refl _) _))⟩
set_option maxRecDepth 100000 in
set_option maxHeartbeats 4000000 in
theorem increment_any (w : World) (B : Nat) (K : Nat → Prop) (mb vb bm : Nat) (m : MD) (h : MachX w B K mb vb bm m) :
    Calls Tryd.prog 47 #[.pointer (some ⟨mb, 0, none⟩)] w (OpPost w B K mb vb bm (incM m) (.tuple #[])) := by
  obtain ⟨pv, sv, ov, hm⟩ := h
  obtain ⟨A, cap, rfl⟩ := hm.prow.form
  obtain ⟨c0, c1, c2, c3, c4⟩ := hm.cells
  have hsm := hm.small.1
  have HST := Lib.hid (show IncR w B K mb vb bm (.slice A m.params.length cap) sv ov m (.int .i64 0) w from ⟨0, rfl, Nat.zero_le _, by rw [show incs 0 m.params = m.params by simp [incs]]; exact hm, Touch.refl _ _⟩)
  have HS := Lib.hid hsm
  clear hm hsm
  go_enter Tryd.func47, Tryd.ntmps47
  go_wp2_with fail
  go_loopw [9] (fun a wr => IncR w B K mb vb bm (.slice A m.params.length cap) sv ov m a wr) (fun a _ => m.params.length - (RowKit.intOf a).toNat)
  case atStart => exact HST.out
  case round =>
    obtain ⟨k, rfl, hk, hm, ht⟩ := hrel
    have HT := Lib.hid ht
    by_cases hlt : k < m.params.length
    · obtain ⟨p, hp⟩ : ∃ p, m.params[k]? = some p := ⟨_, List.getElem?_eq_getElem hlt⟩
      have hp2 : (incs k m.params)[k]? = some p := by rw [incs_at, if_neg (by omega), hp]
      obtain ⟨g, rfl, hcap, hg, d0, d1, d2, hfr⟩ := hm.prow.cells hp2
      have m1 := hm.cells.2.1
      have hml := hm.lt
      have i1 : (k : Int) < (m.params.length : Int) := by omega
      have i2 : (0 : Int) ≤ (k : Int) := by omega
      have i3 : (k : Int) ≤ 9 := by have := HS.out; omega
      have hgn : g ≠ wr.heap.size := by omega
      have hgm : g ≠ mb := hm.pne rfl
      have HM := Lib.hid hm
      have HK := Lib.hid (And.intro hlt hp2)
      have HPP := Lib.hid hp
      have HI := Lib.hid (fun W (hW : MachAt W B K mb vb bm (.slice (some ⟨g, 0, none⟩) m.params.length cap) sv ov { m with params := incs k m.params }) => hW.incr hp2 (w32 (p.num + 1)))
      have hgb : B ≤ g ∧ ¬ K g := ⟨(own_lt hm.prow g rfl).1, fun hK => (hm.free g hK).2.2.2.1 rfl⟩
      have HGB := Lib.hid hgb
      clear hm hk hp2 ht hp hlt hgb
      by_cases h2 : k < 2
      · have j2 : (k : Int) < 2 := by omega
        cases his : p.is with
        | false =>
          rw [his] at d2
          have HE := Lib.hid (show incP k p = { p with num := w32 (p.num + 1) } by unfold incP; rw [if_pos ⟨h2, his⟩])
          clear his h2
          go_wp2_with fail
          exact ⟨IncR.next HK.out.1 HPP.out (by have := HI.out _ HM.out; rw [incs_step HPP.out, HE.out]; exact this) (HT.out.trans (turns_set _ _ _ HGB.out.1 HGB.out.2)) _, by have := HK.out.1; simp [RowKit.intOf]; omega⟩
        | true =>
          rw [his] at d2
          have HE := Lib.hid (show incP k p = p by unfold incP; rw [if_neg (fun e => by rw [his] at e; exact absurd e.2 (by decide))])
          clear his h2
          go_wp2_with fail
          exact ⟨IncR.next HK.out.1 HPP.out (by rw [incs_same HPP.out HE.out]; exact HM.out) HT.out _, by have := HK.out.1; simp [RowKit.intOf]; omega⟩
      · have j2 : ¬ (k : Int) < 2 := by omega
        have HE := Lib.hid (show incP k p = p by unfold incP; rw [if_neg (fun e => h2 e.1)])
        clear h2
        go_wp2_with fail
        exact ⟨IncR.next HK.out.1 HPP.out (by rw [incs_same HPP.out HE.out]; exact HM.out) HT.out _, by have := HK.out.1; simp [RowKit.intOf]; omega⟩
    · have i1 : ¬ (k : Int) < (m.params.length : Int) := by omega
      obtain rfl : k = m.params.length := by omega
      have HM := Lib.hid hm
      clear hm hlt hk ht
      go_wp2_with fail
      go_end0
      exact ⟨rfl, ⟨_, _, _, HM.out⟩, HT.out⟩
end Go.Proofs.YtapihomdfdhnnaaDoor
