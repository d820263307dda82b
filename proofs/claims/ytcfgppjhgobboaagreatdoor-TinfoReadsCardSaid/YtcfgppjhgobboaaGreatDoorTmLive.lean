/-
  What trimmed and slices.Equal return for lists of capabilities.
  Same of package tinfo, of an entry and itself.
  The law package's own check: it returns true and writes nothing that was there.
-/
import Derived.Test.YtcfgppjhgobboaaGreatDoorTmFind
import Derived.Deep.QuietTactic
import Derived.BigQuiet
namespace Go.Proofs.YtcfgppjhgobboaaGreatDoor
section
open Go.RowKit Go.Shelf Go.Lib
attribute [local go_sem] Oper.semAt_some

/-- without the absent ones at the end -/
def trimP (l : List CapD) : List CapD := (l.reverse.dropWhile fun c => c.st == 0).reverse
theorem trimP_snoc (l : List CapD) (c : CapD) : trimP (l ++ [c]) = if c.st == 0 then trimP l else l ++ [c] := by
  unfold trimP
  rw [List.reverse_append]
  simp only [List.reverse_cons, List.reverse_nil, List.nil_append, List.cons_append, List.dropWhile_cons]
  split
  · rfl
  · simp
theorem trimP_nil : trimP [] = [] := rfl
theorem trimP_take {l : List CapD} {k : Nat} {c : CapD} (h : l[k]? = some c) : trimP (l.take (k + 1)) = if c.st == 0 then trimP (l.take k) else l.take (k + 1) := by
  have e : l.take (k + 1) = l.take k ++ [c] := by rw [List.take_add_one, h]; rfl
  rw [e, trimP_snoc]

def TrimR (l : List CapD) (A : Option Addr) (cap : Nat) (v : Value) : Prop := ∃ k : Nat, k ≤ l.length ∧ v = .slice A k cap ∧ trimP l = trimP (l.take k)
set_option maxRecDepth 100000 in
theorem trimmed_any (w : World) (A : Option Addr) (cap : Nat) (l : List CapD) (h : CapsV w (.slice A l.length cap) l) :
    Calls Tryz.prog 50 #[.slice A l.length cap] w fun e w' => e = .returned (.slice A (trimP l).length cap) ∧ w = w' := by
  have H := Lib.hid h
  have hsm : l.length * 32 ≤ 140737488355328 := by obtain ⟨_, _, _, h2⟩ := h.form; exact h2
  have hcap : l.length ≤ cap := by obtain ⟨A', c', e, h1, _⟩ := h; injection e with _ _ e3; omega
  clear h
  obtain ⟨n, hn⟩ : ∃ n, l.length = n := ⟨_, rfl⟩
  have HN := Lib.hid hn
  rw [hn] at hsm hcap ⊢
  clear hn
  go_enter Tryz.func50, Tryz.ntmps50
  go_wp2
  go_loop [0] (fun v => TrimR l A cap v) (fun v => lenV v)
  case atStart => exact ⟨n, by rw [HN.out]; exact Nat.le_refl _, rfl, by rw [List.take_of_length_le (by rw [HN.out]; exact Nat.le_refl _)]⟩
  case round =>
    obtain ⟨k, hk, rfl, hr⟩ := hrel
    rw [HN.out] at hk
    have HR := Lib.hid hr
    clear hr
    match k with
    | 0 =>
      go_wp2
      go_ret
      exact ⟨by rw [HR.out]; rfl, rfl⟩
    | k + 1 =>
      obtain ⟨c, hc⟩ : ∃ c, l[k]? = some c := ⟨_, List.getElem?_eq_getElem (by rw [HN.out]; omega)⟩
      obtain ⟨kb, off, rfl, _, g0, g1, g2⟩ := H.out.cells hc
      have ht := trimP_take hc
      have h1 : (0 : Int) < ((k + 1 : Nat) : Int) := by omega
      have h2 : ((k + 1 : Nat) : Int) - 1 = (k : Int) := by omega
      have h3 : (k : Int) < ((k + 1 : Nat) : Int) := by omega
      have HT := Lib.hid ht
      have hkn : k + 1 ≤ n := hk
      clear hc ht hk
      cases hst : c.st == 0 with
      | true =>
        have HST := Lib.hid hst
        have hst' : (c.st == 0) = true := hst
        go_wp2
        exact ⟨⟨k, by rw [HN.out]; omega, rfl, by rw [HR.out, HT.out, if_pos HST.out]⟩, by simp [lenV]⟩
      | false =>
        have HST := Lib.hid hst
        go_wp2
        go_ret
        have e : trimP l = l.take (k + 1) := by rw [HR.out, HT.out, if_neg (by rw [HST.out]; simp)]
        have e2 : (trimP l).length = k + 1 := by rw [e, List.length_take, HN.out]; omega
        rw [e2]
        exact ⟨rfl, rfl⟩

theorem CapsV.prefix {w : World} {A : Option Addr} {n cap : Nat} {l l' : List CapD} (h : CapsV w (.slice A n cap) l) (hp : l' <+: l) : CapsV w (.slice A l'.length cap) l' := by
  obtain ⟨A', c', e, h1, h2, h3⟩ := h
  injection e with e1 e2 e3
  subst e1 e3
  obtain ⟨r, rfl⟩ := hp
  rw [List.length_append] at h1 h2 h3
  refine ⟨A, cap, rfl, by omega, by omega, ⟨capVals_length l', fun e => ?_, fun hm => ?_⟩⟩
  · have := h3.nil e; omega
  · obtain ⟨k, off, e, hk, hc⟩ := h3.cells (by omega)
    refine ⟨k, off, e, hk, fun j u hu => hc j u ?_⟩
    rw [capVals_append, List.getElem?_append_left (List.getElem?_eq_some_iff.1 hu).1]
    exact hu
theorem trimP_prefix (l : List CapD) : trimP l <+: l := by
  unfold trimP
  have := List.dropWhile_suffix (l := l.reverse) fun c => c.st == 0
  have h2 := List.reverse_prefix.2 this
  rwa [List.reverse_reverse] at h2

theorem neq_cap (a b : CapD) (w : World) : (binOp .neq 37 (capVal a) (capVal b)).run Tryz.prog w = .ok (.bool (!decide (a = b))) w := by
  obtain ⟨a1, a2, a3⟩ := a
  obtain ⟨b1, b2, b3⟩ := b
  simp [go_sem]
  by_cases h1 : a1 = b1 <;> by_cases h2 : a2 = b2 <;> by_cases h3 : a3 = b3 <;> simp [h1, h2, h3]
theorem neq_ext (a b : ExtD) (w : World) : (binOp .neq 48 (extVal a) (extVal b)).run Tryz.prog w = .ok (.bool (!decide (a = b))) w := by
  obtain ⟨a0, an, a1, a2, a3⟩ := a
  obtain ⟨b0, bn, b1, b2, b3⟩ := b
  simp [go_sem]
  by_cases h0 : a0 = b0 <;> by_cases hn : an = bn <;> by_cases h1 : a1 = b1 <;> by_cases h2 : a2 = b2 <;> by_cases h3 : a3 = b3 <;> simp [h0, hn, h1, h2, h3]
theorem drewN_two (w : World) (a b : Nat) : ∃ n, (w.drewN a).drewN b = w.drewN n := ⟨a + b, by simp [World.drewN, Nat.add_assoc]⟩
theorem ret_bool {a b : Bool} (h : a = b) : Ending.returned (.bool a) = .returned (.bool b) := by rw [h]
def EqR (k : Nat → Prop) (w : World) (i : Value) (wr : World) : Prop := ∃ j : Nat, k j ∧ i = .int .i64 j ∧ ∃ n, wr = w.drewN n
set_option maxRecDepth 100000 in
set_option maxHeartbeats 1000000 in
theorem eqCaps_any (w : World) (u v : Value) (l m : List CapD) (hu : CapsV w u l) (hv : CapsV w v m) :
    Calls Tryz.prog 21 #[u, v] w fun e w' => e = .returned (.bool (decide (l = m))) ∧ ∃ n, w' = w.drewN n := by
  obtain ⟨A, ca, rfl, hsa⟩ := hu.form
  obtain ⟨B, cb, rfl, hsb⟩ := hv.form
  have HU := Lib.hid hu
  have HV := Lib.hid hv
  clear hu hv
  by_cases hlen : l.length = m.length
  · obtain ⟨n, hn⟩ : ∃ n, l.length = n := ⟨_, rfl⟩
    have HN := Lib.hid (And.intro hn (hlen.symm.trans hn))
    rw [← hlen, hn] at HV ⊢
    rw [hn] at HU hsa
    clear hlen hn hsb
    go_enter Tryz.func21, Tryz.ntmps21
    go_wp2
    go_loopw [13] (fun i wr => EqR (fun k => k ≤ n ∧ l.take k = m.take k) w i wr) (fun i _ => n - (RowKit.intOf i).toNat)
    case atStart => exact ⟨0, ⟨Nat.zero_le _, rfl⟩, rfl, 0, rfl⟩
    case round =>
      obtain ⟨k, ⟨hk, he⟩, rfl, nd, rfl⟩ := hrel
      have HE := Lib.hid he
      clear he
      by_cases hlt : k < n
      · obtain ⟨c, hc⟩ : ∃ c, l[k]? = some c := ⟨_, List.getElem?_eq_getElem (by rw [HN.out.1]; exact hlt)⟩
        obtain ⟨d, hd⟩ : ∃ d, m[k]? = some d := ⟨_, List.getElem?_eq_getElem (by rw [HN.out.2]; exact hlt)⟩
        obtain ⟨ka, oa, rfl, _, g0, g1, g2⟩ := HU.out.cells hc
        obtain ⟨kb, ob, rfl, _, h0, h1, h2⟩ := HV.out.cells hd
        have HC := Lib.hid (And.intro hc hd)
        have i1 : (0 : Int) ≤ (k : Int) := by omega
        have i2 : (k : Int) < (n : Int) := by omega
        have hq := fun w => neq_cap c d w
        by_cases hcd : c = d
        · subst hcd
          simp only [decide_true, Bool.not_true] at hq
          clear hc hd hk
          go_wp2
          go_quiet (fail)
          go_wp2
          exact ⟨⟨k + 1, ⟨hlt, by rw [List.take_add_one, List.take_add_one, HE.out, HC.out.1, HC.out.2]⟩, by go_num, _, rfl⟩, by simp [RowKit.intOf]; omega⟩
        · simp only [hcd, decide_false, Bool.not_false] at hq
          have HCD := Lib.hid hcd
          clear hc hd hk hcd
          go_wp2
          go_quiet (fail)
          go_wp2
          go_ret
          exact ⟨ret_bool (by symm; rw [decide_eq_false_iff_not]; intro e; exact HCD.out (by have h1 := HC.out.1; have h2 := HC.out.2; rw [e, h2] at h1; exact (Option.some.inj h1).symm)), drewN_two _ _ _⟩
      · obtain rfl : k = n := by omega
        go_wp2
        go_ret
        exact ⟨ret_bool (by have := HE.out; rw [List.take_of_length_le (Nat.le_of_eq HN.out.1), List.take_of_length_le (Nat.le_of_eq HN.out.2)] at this; simp [this]), nd, rfl⟩
  · have hl : ((l.length : Int) == (m.length : Int)) = false := by simp; omega
    have hl' : ((l.length : Int) != (m.length : Int)) = true := by simp; omega
    have HL := Lib.hid hlen
    clear hlen
    go_enter Tryz.func21, Tryz.ntmps21
    go_wp2
    go_ret
    exact ⟨ret_bool (by symm; rw [decide_eq_false_iff_not]; intro e; exact HL.out (by rw [e])), 0, rfl⟩

set_option maxRecDepth 100000 in
set_option maxHeartbeats 1000000 in
theorem eqExts_any (w : World) (u v : Value) (l m : List ExtD) (hu : ExtsV w u l) (hv : ExtsV w v m) :
    Calls Tryz.prog 22 #[u, v] w fun e w' => e = .returned (.bool (decide (l = m))) ∧ ∃ n, w' = w.drewN n := by
  obtain ⟨A, ca, rfl, hsa⟩ := hu.form
  obtain ⟨B, cb, rfl, hsb⟩ := hv.form
  have HU := Lib.hid hu
  have HV := Lib.hid hv
  clear hu hv
  by_cases hlen : l.length = m.length
  · obtain ⟨n, hn⟩ : ∃ n, l.length = n := ⟨_, rfl⟩
    have HN := Lib.hid (And.intro hn (hlen.symm.trans hn))
    rw [← hlen, hn] at HV ⊢
    rw [hn] at HU hsa
    clear hlen hn hsb
    go_enter Tryz.func22, Tryz.ntmps22
    go_wp2
    go_loopw [13] (fun i wr => EqR (fun k => k ≤ n ∧ l.take k = m.take k) w i wr) (fun i _ => n - (RowKit.intOf i).toNat)
    case atStart => exact ⟨0, ⟨Nat.zero_le _, rfl⟩, rfl, 0, rfl⟩
    case round =>
      obtain ⟨k, ⟨hk, he⟩, rfl, nd, rfl⟩ := hrel
      have HE := Lib.hid he
      clear he
      by_cases hlt : k < n
      · obtain ⟨c, hc⟩ : ∃ c, l[k]? = some c := ⟨_, List.getElem?_eq_getElem (by rw [HN.out.1]; exact hlt)⟩
        obtain ⟨d, hd⟩ : ∃ d, m[k]? = some d := ⟨_, List.getElem?_eq_getElem (by rw [HN.out.2]; exact hlt)⟩
        obtain ⟨ka, oa, rfl, _, g0, g1, g2, g3, g4⟩ := HU.out.cells hc
        obtain ⟨kb, ob, rfl, _, h0, h1, h2, h3, h4⟩ := HV.out.cells hd
        have HC := Lib.hid (And.intro hc hd)
        have i1 : (0 : Int) ≤ (k : Int) := by omega
        have i2 : (k : Int) < (n : Int) := by omega
        have hq := fun w => neq_ext c d w
        by_cases hcd : c = d
        · subst hcd
          simp only [decide_true, Bool.not_true] at hq
          clear hc hd hk
          go_wp2
          go_quiet (fail)
          go_wp2
          exact ⟨⟨k + 1, ⟨hlt, by rw [List.take_add_one, List.take_add_one, HE.out, HC.out.1, HC.out.2]⟩, by go_num, _, rfl⟩, by simp [RowKit.intOf]; omega⟩
        · simp only [hcd, decide_false, Bool.not_false] at hq
          have HCD := Lib.hid hcd
          clear hc hd hk hcd
          go_wp2
          go_quiet (fail)
          go_wp2
          go_ret
          exact ⟨ret_bool (by symm; rw [decide_eq_false_iff_not]; intro e; exact HCD.out (by have h1 := HC.out.1; have h2 := HC.out.2; rw [e, h2] at h1; exact (Option.some.inj h1).symm)), drewN_two _ _ _⟩
      · obtain rfl : k = n := by omega
        go_wp2
        go_ret
        exact ⟨ret_bool (by have := HE.out; rw [List.take_of_length_le (Nat.le_of_eq HN.out.1), List.take_of_length_le (Nat.le_of_eq HN.out.2)] at this; simp [this]), nd, rfl⟩
  · have hl : ((l.length : Int) == (m.length : Int)) = false := by simp; omega
    have hl' : ((l.length : Int) != (m.length : Int)) = true := by simp; omega
    have HL := Lib.hid hlen
    clear hlen
    go_enter Tryz.func22, Tryz.ntmps22
    go_wp2
    go_ret
    exact ⟨ret_bool (by symm; rw [decide_eq_false_iff_not]; intro e; exact HL.out (by rw [e])), 0, rfl⟩
end

section
open Go.RowKit Go.Shelf Go.Lib
attribute [local go_sem] Oper.semAt_some

theorem below_drewN {B : Nat} {a w : World} (h : Below B a w) (n : Nat) : Below B a (w.drewN n) := ⟨h.os, h.tape, h.output, h.size, h.block⟩
theorem ExtsV.drewN {w : World} {v : Value} {l : List ExtD} (h : ExtsV w v l) (n : Nat) : ExtsV (w.drewN n) v l := h.below ⟨rfl, rfl, rfl, Nat.le_refl _, fun _ _ => rfl⟩
/-! ### Same, of an entry and itself, where it has no extended capabilities -/
set_option maxRecDepth 1000000 in
set_option maxHeartbeats 8000000 in
theorem same_self (w : World) (t : TermD) (v : Nat → Value) (ve : Value) (h : TermV w v ve t) :
    Calls Tryz.prog 13 #[termVal t v ve, termVal t v ve] w fun e w' => e = .returned (.bool true) ∧ Below w.heap.size w w' := by
  obtain ⟨A0, n0, e0, _⟩ := (h.caps 0 (by omega)).form
  obtain ⟨A1, n1, e1, _⟩ := (h.caps 1 (by omega)).form
  obtain ⟨A2, n2, e2, _⟩ := (h.caps 2 (by omega)).form
  obtain ⟨A3, n3, e3, _⟩ := h.exts.form
  have g0 := h.caps 0 (by omega)
  have g1 := h.caps 1 (by omega)
  have g2 := h.caps 2 (by omega)
  have g3 := h.exts
  rw [e0] at g0
  rw [e1] at g1
  rw [e2] at g2
  rw [e3] at g3
  show Calls _ _ #[.agg #[str t.names, .bool t.wide, v 0, v 1, v 2, ve], .agg #[str t.names, .bool t.wide, v 0, v 1, v 2, ve]] _ _
  rw [e0, e1, e2, e3]
  clear h e0 e1 e2 e3
  have hb : Below w.heap.size w ((w.alloc (.cells #[str t.names, .bool t.wide, .slice A0 (listOf t 0).length n0, .slice A1 (listOf t 1).length n1, .slice A2 (listOf t 2).length n2, .slice A3 t.exts.length n3] 26)).alloc (.cells #[str t.names, .bool t.wide, .slice A0 (listOf t 0).length n0, .slice A1 (listOf t 1).length n1, .slice A2 (listOf t 2).length n2, .slice A3 t.exts.length n3] 26)) := ((Below.refl _ w).alloc (Nat.le_refl _) _).alloc (by simp) _
  have HB := Lib.hid hb
  have b0 := g0.below hb
  have b1 := g1.below hb
  have b2 := g2.below hb
  have b3 := g3.below hb
  clear g0 g1 g2 g3 hb
  generalize listOf t 0 = l0 at *
  generalize listOf t 1 = l1 at *
  generalize listOf t 2 = l2 at *
  generalize t.exts = l3 at *
  generalize t.names = nm at *
  generalize t.wide = wd at *
  have CT0 := Lib.hid (fun n => (trimmed_any _ _ _ _ (b0.drewN n)).mono fun e w' h => And.intro h.1 h.2.symm)
  have CT1 := Lib.hid (fun n => (trimmed_any _ _ _ _ (b1.drewN n)).mono fun e w' h => And.intro h.1 h.2.symm)
  have CT2 := Lib.hid (fun n => (trimmed_any _ _ _ _ (b2.drewN n)).mono fun e w' h => And.intro h.1 h.2.symm)
  have CE0 := Lib.hid (fun n => eqCaps_any _ _ _ _ _ ((b0.prefix (trimP_prefix _)).drewN n) ((b0.prefix (trimP_prefix _)).drewN n))
  have CE1 := Lib.hid (fun n => eqCaps_any _ _ _ _ _ ((b1.prefix (trimP_prefix _)).drewN n) ((b1.prefix (trimP_prefix _)).drewN n))
  have CE2 := Lib.hid (fun n => eqCaps_any _ _ _ _ _ ((b2.prefix (trimP_prefix _)).drewN n) ((b2.prefix (trimP_prefix _)).drewN n))
  have CE3 := Lib.hid (fun n => eqExts_any _ _ _ _ _ (b3.drewN n) (b3.drewN n))
  simp only [decide_true] at CE0 CE1 CE2 CE3
  clear b0 b1 b2 b3
  go_enter Tryz.func13, Tryz.ntmps13
  go_wp2
  go_quiet (first
    | (go_at_call 22; with_reducible exact Calls.quiet_of (CE3.out _))
    | (go_at_call 50; first | with_reducible exact Calls.quiet_of_same (CT0.out _) | with_reducible exact Calls.quiet_of_same (CT1.out _) | with_reducible exact Calls.quiet_of_same (CT2.out _))
    | (go_at_call 21; first | with_reducible exact Calls.quiet_of (CE0.out _) | with_reducible exact Calls.quiet_of (CE1.out _) | with_reducible exact Calls.quiet_of (CE2.out _)))
  go_wp2
  go_ret
  exact ⟨rfl, below_drewN HB.out _⟩
end

section
open Go.RowKit Go.Shelf Go.Lib
attribute [local go_sem] Oper.semAt_some

def vtName : List UInt8 := [118, 116, 50, 50, 48]
def cupName : List UInt8 := [99, 117, 112]
def cupText : List UInt8 := [27, 91, 37, 105, 37, 112, 49, 37, 100, 59, 37, 112, 50, 37, 100, 72]
theorem place_cup : placeP cupName = some (2, 10) := by decide +kernel
theorem place_am : placeP [97, 109] = some (0, 1) := by decide +kernel
theorem vt_cup : getP (listOf vt220P 2) 10 = ⟨1, 0, cupText⟩ := by decide +kernel
theorem vt_am : (getP (listOf vt220P 0) 1).st = 1 := by decide +kernel
theorem vt_small : vt220P.bools.length ≤ 1000 ∧ vt220P.nums.length ≤ 1000 ∧ vt220P.strs.length ≤ 1000 ∧ vt220P.exts.length ≤ 1000 := by decide +kernel

theorem TermAt.reads {W : World} {FP : Nat → Prop} {tb : Nat} {v : Nat → Value} {ve : Value} {t : TermD} (h : TermAt W FP tb v ve t) (hs : t.bools.length ≤ 1000 ∧ t.nums.length ≤ 1000 ∧ t.strs.length ≤ 1000 ∧ t.exts.length ≤ 1000) : TermV W v ve t := by
  refine ⟨fun i hi => (h.rows i hi).reads ?_, h.exts.reads (by omega)⟩
  match i, hi with
  | 0, _ => show t.bools.length * 32 ≤ _; omega
  | 1, _ => show t.nums.length * 32 ≤ _; omega
  | 2, _ => show t.strs.length * 32 ≤ _; omega

theorem termZero_facts {W : World} {b : Nat} (h : W.heap[b]? = some termZero) :
    W.cell? ⟨b, 0, none⟩ = some (.string ⟨#[]⟩) ∧ W.cell? ⟨b, 1, none⟩ = some (.bool false) ∧ W.cell? ⟨b, 2, none⟩ = some (.slice none 0 0) ∧ W.cell? ⟨b, 3, none⟩ = some (.slice none 0 0) ∧ W.cell? ⟨b, 4, none⟩ = some (.slice none 0 0) ∧ W.cell? ⟨b, 5, none⟩ = some (.slice none 0 0) ∧
    W.frozen? ⟨b, 0, none⟩ = false ∧ W.frozen? ⟨b, 1, none⟩ = false ∧ W.frozen? ⟨b, 2, none⟩ = false ∧ W.frozen? ⟨b, 3, none⟩ = false ∧ W.frozen? ⟨b, 4, none⟩ = false ∧ W.frozen? ⟨b, 5, none⟩ = false :=
  ⟨cell_of_row W b 0 _ _ _ h, cell_of_row W b 1 _ _ _ h, cell_of_row W b 2 _ _ _ h, cell_of_row W b 3 _ _ _ h, cell_of_row W b 4 _ _ _ h, cell_of_row W b 5 _ _ _ h, frozen_of_row W b 0 _ _ h, frozen_of_row W b 1 _ _ h, frozen_of_row W b 2 _ _ h, frozen_of_row W b 3 _ _ h, frozen_of_row W b 4 _ _ h, frozen_of_row W b 5 _ _ h⟩
set_option maxRecDepth 100000 in
theorem shipped_vt (w : World) (hT : Tabs w) : Calls Tryz.prog 19 #[str vtName] w fun e w' =>
    ∃ tb v ve, e = .returned (.tuple #[termVal vt220P v ve, .bool true]) ∧ TermAt w' (fun k => w.heap.size ≤ k) tb v ve vt220P ∧ Below w.heap.size w w' := by
  have CV := Lib.hid (vt220_any (w.alloc termZero) (hT.below ((Below.refl _ w).alloc (Nat.le_refl _) _)))
  clear hT
  go_enter Tryz.func19, Tryz.ntmps19
  go_wp2_with (go_at_call 58; refine (CV.out).mono ?_; rintro e w2 ⟨tb, v, ve, he, hTA, hB2⟩; have hbox : w2.heap[w.heap.size]? = some termZero := (hB2.block _ (by simp)).trans (World.alloc_heap_new w _); have F := termZero_facts hbox; obtain ⟨d0, d1, d2, d3, d4, d5, f0, f1, f2, f3, f4, f5⟩ := F; obtain ⟨A0, n0, A1, n1, A2, n2, Ae, ne, e0, e1, e2, ee⟩ := hTA.forms; have he' : e = .returned (.agg #[str vt220P.names, .bool vt220P.wide, .slice A0 vt220P.bools.length n0, .slice A1 vt220P.nums.length n1, .slice A2 vt220P.strs.length n2, .slice Ae vt220P.exts.length ne]) := (by rw [he, termVal, e0, e1, e2, ee]); clear he; subst he'; have HR := Lib.hid (And.intro hTA (And.intro hB2 (And.intro hbox (And.intro e0 (And.intro e1 (And.intro e2 ee)))))); clear hTA hB2 hbox e0 e1 e2 ee)
  obtain ⟨hTA, hB2, hbox, e0, e1, e2, ee⟩ := HR.out
  rw [← e0, ← e1, ← e2, ← ee]
  have hX := storeTerm_touch w2 w.heap.size vt220P v ve
  have hBX : Below w.heap.size w (storeTerm w2 w.heap.size vt220P v ve) := (((Below.refl _ w).alloc (Nat.le_refl _) _).trans (hB2.mono (by simp))).trans (hX.below (by have := hB2.size; simp at this; omega) fun k hk => by omega)
  have hres := fun j => cell_of_row (storeTerm w2 w.heap.size vt220P v ve) w.heap.size j _ _ _ (storeTerm_box (t := vt220P) (v := v) (ve := ve) hbox)
  refine bodyPost_ret (v := .tuple #[termVal vt220P v ve, .bool true]) (by simp [results, Tryz.results19, go_sem, hres]) rfl ?_
  exact ⟨_, _, _, rfl, (hTA.same fun k _ hk => hX.block k (by omega) (by simp at hk; omega)).more fun k _ hk => by simp at hk; omega, hBX⟩

/-- the entry, its lists laid open -/
structure VtV (W : World) (A0 A1 A2 Ae : Option Addr) (n0 n1 n2 ne : Nat) : Prop where
  has : ∃ v ve, TermV W v ve vt220P ∧ v 0 = .slice A0 vt220P.bools.length n0 ∧ v 1 = .slice A1 vt220P.nums.length n1 ∧ v 2 = .slice A2 vt220P.strs.length n2 ∧ ve = .slice Ae vt220P.exts.length ne
  tabs : Tabs W
abbrev vtCells (A0 A1 A2 Ae : Option Addr) (n0 n1 n2 ne : Nat) : Array Value := #[str vt220P.names, .bool vt220P.wide, .slice A0 vt220P.bools.length n0, .slice A1 vt220P.nums.length n1, .slice A2 vt220P.strs.length n2, .slice Ae vt220P.exts.length ne]
section
variable {w2 W W' : World} {A0 A1 A2 Ae : Option Addr} {n0 n1 n2 ne : Nat}
theorem VtV.below (h : VtV W A0 A1 A2 Ae n0 n1 n2 ne) (hb : Below W.heap.size W W') : VtV W' A0 A1 A2 Ae n0 n1 n2 ne := by
  obtain ⟨⟨v, ve, h1, h2⟩, hT⟩ := h
  exact ⟨⟨v, ve, h1.below hb, h2⟩, hT.below hb⟩
theorem VtV.text (h : VtV W A0 A1 A2 Ae n0 n1 n2 ne) : Calls Tryz.prog 29 #[.agg #[str vt220P.names, .bool vt220P.wide, .slice A0 vt220P.bools.length n0, .slice A1 vt220P.nums.length n1, .slice A2 vt220P.strs.length n2, .slice Ae vt220P.exts.length ne], str cupName] W fun e w' => e = .returned (.tuple #[str cupText, .bool true]) ∧ Below W.heap.size W w' := by
  obtain ⟨⟨v, ve, h1, e0, e1, e2, ee⟩, hT⟩ := h
  have := text_yes W vt220P v ve h1 hT cupName 10 place_cup (by rw [show (10 : Int).toNat = 10 from rfl, vt_cup])
  rw [show (10 : Int).toNat = 10 from rfl, vt_cup, termVal, e0, e1, e2, ee] at this
  exact this
theorem VtV.flag (h : VtV W A0 A1 A2 Ae n0 n1 n2 ne) : Calls Tryz.prog 31 #[.agg #[str vt220P.names, .bool vt220P.wide, .slice A0 vt220P.bools.length n0, .slice A1 vt220P.nums.length n1, .slice A2 vt220P.strs.length n2, .slice Ae vt220P.exts.length ne], str [97, 109]] W fun e w' => e = .returned (.bool true) ∧ Below W.heap.size W w' := by
  obtain ⟨⟨v, ve, h1, e0, e1, e2, ee⟩, hT⟩ := h
  have := flag_yes W vt220P v ve h1 hT [97, 109] 1 place_am vt_am
  rw [termVal, e0, e1, e2, ee] at this
  exact this
theorem VtV.same (h : VtV W A0 A1 A2 Ae n0 n1 n2 ne) : Calls Tryz.prog 13 #[.agg #[str vt220P.names, .bool vt220P.wide, .slice A0 vt220P.bools.length n0, .slice A1 vt220P.nums.length n1, .slice A2 vt220P.strs.length n2, .slice Ae vt220P.exts.length ne], .agg #[str vt220P.names, .bool vt220P.wide, .slice A0 vt220P.bools.length n0, .slice A1 vt220P.nums.length n1, .slice A2 vt220P.strs.length n2, .slice Ae vt220P.exts.length ne]] W fun e w' => e = .returned (.bool true) ∧ Below W.heap.size W w' := by
  obtain ⟨⟨v, ve, h1, e0, e1, e2, ee⟩, hT⟩ := h
  have := same_self W vt220P v ve h1
  rw [termVal, e0, e1, e2, ee] at this
  exact this
/-- between the calls of live: the entry lies in its box -/
def LiveS (w2 W : World) (A0 A1 A2 Ae : Option Addr) (n0 n1 n2 ne : Nat) : Prop := VtV W A0 A1 A2 Ae n0 n1 n2 ne ∧ Below w2.heap.size w2 W ∧ W.heap[w2.heap.size]? = some (.cells (vtCells A0 A1 A2 Ae n0 n1 n2 ne) 26 (0, 0))
theorem LiveS.next (h : LiveS w2 W A0 A1 A2 Ae n0 n1 n2 ne) (hb : Below W.heap.size W W') : LiveS w2 W' A0 A1 A2 Ae n0 n1 n2 ne :=
  ⟨h.1.below hb, h.2.1.trans (hb.mono h.2.1.size), (hb.block _ (Array.getElem?_eq_some_iff.1 h.2.2).1).trans h.2.2⟩
theorem LiveS.cells (h : LiveS w2 W A0 A1 A2 Ae n0 n1 n2 ne) : W.cell? ⟨w2.heap.size, 0, none⟩ = some (str vt220P.names) ∧ W.cell? ⟨w2.heap.size, 1, none⟩ = some (.bool vt220P.wide) ∧ W.cell? ⟨w2.heap.size, 2, none⟩ = some (.slice A0 vt220P.bools.length n0) ∧ W.cell? ⟨w2.heap.size, 3, none⟩ = some (.slice A1 vt220P.nums.length n1) ∧
    W.cell? ⟨w2.heap.size, 4, none⟩ = some (.slice A2 vt220P.strs.length n2) ∧ W.cell? ⟨w2.heap.size, 5, none⟩ = some (.slice Ae vt220P.exts.length ne) :=
  ⟨cell_of_row W _ 0 _ _ _ h.2.2, cell_of_row W _ 1 _ _ _ h.2.2, cell_of_row W _ 2 _ _ _ h.2.2, cell_of_row W _ 3 _ _ _ h.2.2, cell_of_row W _ 4 _ _ _ h.2.2, cell_of_row W _ 5 _ _ _ h.2.2⟩
end
theorem place_cup_any (w : World) (hT : Tabs w) : Calls Tryz.prog 30 #[str cupName] w fun e w' => e = .returned (.tuple #[.int .i64 2, .int .i64 10, .bool true]) ∧ Below w.heap.size w w' :=
  (place_any cupName w hT.run).mono fun _ _ ⟨h1, h2⟩ => ⟨by rw [h1]; unfold placeRes; rw [place_cup], h2⟩
/-- the law package's own check -/
def LivePost (w : World) (e : Ending) (w' : World) : Prop := e = .returned (.bool true) ∧ Below w.heap.size w w'

set_option maxRecDepth 100000 in
set_option maxHeartbeats 4000000 in
theorem live_any (w : World) (hT : Tabs w) : Calls Tryz.prog 9 #[] w (LivePost w) := by
  have CS := Lib.hid (shipped_vt w hT)
  have HT := Lib.hid hT
  clear hT
  go_enter Tryz.func9, Tryz.ntmps9
  go_wp2_with (first
    | (go_at_call 19; refine (CS.out).mono ?_; rintro e w2 ⟨tb, v, ve, he, hTA, hB2⟩; obtain ⟨A0, n0, A1, n1, A2, n2, Ae, ne, e0, e1, e2, ee⟩ := hTA.forms; have he' : e = .returned (.tuple #[.agg #[str vt220P.names, .bool vt220P.wide, .slice A0 vt220P.bools.length n0, .slice A1 vt220P.nums.length n1, .slice A2 vt220P.strs.length n2, .slice Ae vt220P.exts.length ne], .bool true]) := (by rw [he, termVal, e0, e1, e2, ee]); clear he; subst he'; have HB2 := Lib.hid hB2; have HS := Lib.hid (show LiveS w2 (w2.alloc (.cells (vtCells A0 A1 A2 Ae n0 n1 n2 ne) 26)) A0 A1 A2 Ae n0 n1 n2 ne from ⟨VtV.below ⟨⟨v, ve, hTA.reads vt_small, e0, e1, e2, ee⟩, HT.out.below hB2⟩ ((Below.refl _ _).alloc (Nat.le_refl _) _), (Below.refl _ _).alloc (Nat.le_refl _) _, World.alloc_heap_new w2 _⟩); clear CS hTA hB2 e0 e1 e2 ee)
    | (go_at_call 29; refine (HS.out.1.text).mono ?_; rintro e W ⟨rfl, hb⟩; replace HS := Lib.hid (HS.out.next hb); clear hb)
    | (go_at_call 30; refine (place_cup_any _ HS.out.1.tabs).mono ?_; rintro e W ⟨rfl, hb⟩; replace HS := Lib.hid (HS.out.next hb); obtain ⟨b0, b1, b2, b3, b4, b5⟩ := HS.out.cells; clear hb)
    | (go_at_call 31; refine (HS.out.1.flag).mono ?_; rintro e W ⟨rfl, hb⟩; replace HS := Lib.hid (HS.out.next hb); clear b0 b1 b2 b3 b4 b5; obtain ⟨b0, b1, b2, b3, b4, b5⟩ := HS.out.cells; clear hb)
    | (go_at_call 13; refine (HS.out.1.same).mono ?_; rintro e W ⟨rfl, hb⟩; replace HS := Lib.hid (HS.out.next hb); clear hb b0 b1 b2 b3 b4 b5))
  go_ret
  exact ⟨rfl, HB2.out.trans (HS.out.2.1.mono HB2.out.size)⟩
end
end Go.Proofs.YtcfgppjhgobboaaGreatDoor
