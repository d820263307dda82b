/-
  What trimmed and slices.Equal return for lists of capabilities.
-/
import Derived.Test.YtcfgppjhgobboaaGreatDoorTiText
import Derived.Deep.QuietTactic
import Derived.BigQuiet
namespace Go.Proofs.YtcfgppjhgobboaaGreatDoor
open Go.RowKit Go.Shelf Go.Lib
attribute [local go_sem] Oper.semAt_some

/-- without the absent ones at the end -/
def trimP (l : List CapD) : List CapD := (l.reverse.dropWhile fun c => c.st == 0).reverse
theorem trimP_snoc (l : List CapD) (c : CapD) : trimP (l ++ [c]) = if c.st == 0 then trimP l else l ++ [c] := by
  unfold trimP
  rw [List.reverse_append]
  simp only [List.reverse_cons, List.reverse_nil, List.nil_append, List.cons_append, List.dropWhile_cons]
  split
  · rfl
  · simp
theorem trimP_nil : trimP [] = [] := rfl
theorem trimP_take {l : List CapD} {k : Nat} {c : CapD} (h : l[k]? = some c) : trimP (l.take (k + 1)) = if c.st == 0 then trimP (l.take k) else l.take (k + 1) := by
  have e : l.take (k + 1) = l.take k ++ [c] := by rw [List.take_add_one, h]; rfl
  rw [e, trimP_snoc]

def TrimR (l : List CapD) (A : Option Addr) (cap : Nat) (v : Value) : Prop := ∃ k : Nat, k ≤ l.length ∧ v = .slice A k cap ∧ trimP l = trimP (l.take k)
set_option maxRecDepth 100000 in
theorem trimmed_any (w : World) (A : Option Addr) (cap : Nat) (l : List CapD) (h : CapsV w (.slice A l.length cap) l) :
    Calls Tryz.prog 50 #[.slice A l.length cap] w fun e w' => e = .returned (.slice A (trimP l).length cap) ∧ w = w' := by
  have H := Lib.hid h
  have hsm : l.length * 32 ≤ 140737488355328 := by obtain ⟨_, _, _, h2⟩ := h.form; exact h2
  have hcap : l.length ≤ cap := by obtain ⟨A', c', e, h1, _⟩ := h; injection e with _ _ e3; omega
  clear h
  obtain ⟨n, hn⟩ : ∃ n, l.length = n := ⟨_, rfl⟩
  have HN := Lib.hid hn
  rw [hn] at hsm hcap ⊢
  clear hn
  go_enter Tryz.func50, Tryz.ntmps50
  go_wp2
  go_loop [0] (fun v => TrimR l A cap v) (fun v => lenV v)
  case atStart => exact ⟨n, by rw [HN.out]; exact Nat.le_refl _, rfl, by rw [List.take_of_length_le (by rw [HN.out]; exact Nat.le_refl _)]⟩
  case round =>
    obtain ⟨k, hk, rfl, hr⟩ := hrel
    rw [HN.out] at hk
    have HR := Lib.hid hr
    clear hr
    match k with
    | 0 =>
      go_wp2
      go_ret
      exact ⟨by rw [HR.out]; rfl, rfl⟩
    | k + 1 =>
      obtain ⟨c, hc⟩ : ∃ c, l[k]? = some c := ⟨_, List.getElem?_eq_getElem (by rw [HN.out]; omega)⟩
      obtain ⟨kb, off, rfl, _, g0, g1, g2⟩ := H.out.cells hc
      have ht := trimP_take hc
      have h1 : (0 : Int) < ((k + 1 : Nat) : Int) := by omega
      have h2 : ((k + 1 : Nat) : Int) - 1 = (k : Int) := by omega
      have h3 : (k : Int) < ((k + 1 : Nat) : Int) := by omega
      have HT := Lib.hid ht
      have hkn : k + 1 ≤ n := hk
      clear hc ht hk
      cases hst : c.st == 0 with
      | true =>
        have HST := Lib.hid hst
        have hst' : (c.st == 0) = true := hst
        go_wp2
        exact ⟨⟨k, by rw [HN.out]; omega, rfl, by rw [HR.out, HT.out, if_pos HST.out]⟩, by simp [lenV]⟩
      | false =>
        have HST := Lib.hid hst
        go_wp2
        go_ret
        have e : trimP l = l.take (k + 1) := by rw [HR.out, HT.out, if_neg (by rw [HST.out]; simp)]
        have e2 : (trimP l).length = k + 1 := by rw [e, List.length_take, HN.out]; omega
        rw [e2]
        exact ⟨rfl, rfl⟩

theorem CapsV.prefix {w : World} {A : Option Addr} {n cap : Nat} {l l' : List CapD} (h : CapsV w (.slice A n cap) l) (hp : l' <+: l) : CapsV w (.slice A l'.length cap) l' := by
  obtain ⟨A', c', e, h1, h2, h3⟩ := h
  injection e with e1 e2 e3
  subst e1 e3
  obtain ⟨r, rfl⟩ := hp
  rw [List.length_append] at h1 h2 h3
  refine ⟨A, cap, rfl, by omega, by omega, ⟨capVals_length l', fun e => ?_, fun hm => ?_⟩⟩
  · have := h3.nil e; omega
  · obtain ⟨k, off, e, hk, hc⟩ := h3.cells (by omega)
    refine ⟨k, off, e, hk, fun j u hu => hc j u ?_⟩
    rw [capVals_append, List.getElem?_append_left (List.getElem?_eq_some_iff.1 hu).1]
    exact hu
theorem trimP_prefix (l : List CapD) : trimP l <+: l := by
  unfold trimP
  have := List.dropWhile_suffix (l := l.reverse) fun c => c.st == 0
  have h2 := List.reverse_prefix.2 this
  rwa [List.reverse_reverse] at h2

theorem neq_cap (a b : CapD) (w : World) : (binOp .neq 37 (capVal a) (capVal b)).run Tryz.prog w = .ok (.bool (!decide (a = b))) w := by
  obtain ⟨a1, a2, a3⟩ := a
  obtain ⟨b1, b2, b3⟩ := b
  simp [go_sem]
  by_cases h1 : a1 = b1 <;> by_cases h2 : a2 = b2 <;> by_cases h3 : a3 = b3 <;> simp [h1, h2, h3]
theorem neq_ext (a b : ExtD) (w : World) : (binOp .neq 48 (extVal a) (extVal b)).run Tryz.prog w = .ok (.bool (!decide (a = b))) w := by
  obtain ⟨a0, an, a1, a2, a3⟩ := a
  obtain ⟨b0, bn, b1, b2, b3⟩ := b
  simp [go_sem]
  by_cases h0 : a0 = b0 <;> by_cases hn : an = bn <;> by_cases h1 : a1 = b1 <;> by_cases h2 : a2 = b2 <;> by_cases h3 : a3 = b3 <;> simp [h0, hn, h1, h2, h3]
theorem drewN_two (w : World) (a b : Nat) : ∃ n, (w.drewN a).drewN b = w.drewN n := ⟨a + b, by simp [World.drewN, Nat.add_assoc]⟩
theorem ret_bool {a b : Bool} (h : a = b) : Ending.returned (.bool a) = .returned (.bool b) := by rw [h]
def EqR (k : Nat → Prop) (w : World) (i : Value) (wr : World) : Prop := ∃ j : Nat, k j ∧ i = .int .i64 j ∧ ∃ n, wr = w.drewN n
set_option maxRecDepth 100000 in
set_option maxHeartbeats 1000000 in
theorem eqCaps_any (w : World) (u v : Value) (l m : List CapD) (hu : CapsV w u l) (hv : CapsV w v m) :
    Calls Tryz.prog 21 #[u, v] w fun e w' => e = .returned (.bool (decide (l = m))) ∧ ∃ n, w' = w.drewN n := by
  obtain ⟨A, ca, rfl, hsa⟩ := hu.form
  obtain ⟨B, cb, rfl, hsb⟩ := hv.form
  have HU := Lib.hid hu
  have HV := Lib.hid hv
  clear hu hv
  by_cases hlen : l.length = m.length
  · obtain ⟨n, hn⟩ : ∃ n, l.length = n := ⟨_, rfl⟩
    have HN := Lib.hid (And.intro hn (hlen.symm.trans hn))
    rw [← hlen, hn] at HV ⊢
    rw [hn] at HU hsa
    clear hlen hn hsb
    go_enter Tryz.func21, Tryz.ntmps21
    go_wp2
    go_loopw [13] (fun i wr => EqR (fun k => k ≤ n ∧ l.take k = m.take k) w i wr) (fun i _ => n - (RowKit.intOf i).toNat)
    case atStart => exact ⟨0, ⟨Nat.zero_le _, rfl⟩, rfl, 0, rfl⟩
    case round =>
      obtain ⟨k, ⟨hk, he⟩, rfl, nd, rfl⟩ := hrel
      have HE := Lib.hid he
      clear he
      by_cases hlt : k < n
      · obtain ⟨c, hc⟩ : ∃ c, l[k]? = some c := ⟨_, List.getElem?_eq_getElem (by rw [HN.out.1]; exact hlt)⟩
        obtain ⟨d, hd⟩ : ∃ d, m[k]? = some d := ⟨_, List.getElem?_eq_getElem (by rw [HN.out.2]; exact hlt)⟩
        obtain ⟨ka, oa, rfl, _, g0, g1, g2⟩ := HU.out.cells hc
        obtain ⟨kb, ob, rfl, _, h0, h1, h2⟩ := HV.out.cells hd
        have HC := Lib.hid (And.intro hc hd)
        have i1 : (0 : Int) ≤ (k : Int) := by omega
        have i2 : (k : Int) < (n : Int) := by omega
        have hq := fun w => neq_cap c d w
        by_cases hcd : c = d
        · subst hcd
          simp only [decide_true, Bool.not_true] at hq
          clear hc hd hk
          go_wp2
          go_quiet (fail)
          go_wp2
          exact ⟨⟨k + 1, ⟨hlt, by rw [List.take_add_one, List.take_add_one, HE.out, HC.out.1, HC.out.2]⟩, by go_num, _, rfl⟩, by simp [RowKit.intOf]; omega⟩
        · simp only [hcd, decide_false, Bool.not_false] at hq
          have HCD := Lib.hid hcd
          clear hc hd hk hcd
          go_wp2
          go_quiet (fail)
          go_wp2
          go_ret
          exact ⟨ret_bool (by symm; rw [decide_eq_false_iff_not]; intro e; exact HCD.out (by have h1 := HC.out.1; have h2 := HC.out.2; rw [e, h2] at h1; exact (Option.some.inj h1).symm)), drewN_two _ _ _⟩
      · obtain rfl : k = n := by omega
        go_wp2
        go_ret
        exact ⟨ret_bool (by have := HE.out; rw [List.take_of_length_le (Nat.le_of_eq HN.out.1), List.take_of_length_le (Nat.le_of_eq HN.out.2)] at this; simp [this]), nd, rfl⟩
  · have hl : ((l.length : Int) == (m.length : Int)) = false := by simp; omega
    have hl' : ((l.length : Int) != (m.length : Int)) = true := by simp; omega
    have HL := Lib.hid hlen
    clear hlen
    go_enter Tryz.func21, Tryz.ntmps21
    go_wp2
    go_ret
    exact ⟨ret_bool (by symm; rw [decide_eq_false_iff_not]; intro e; exact HL.out (by rw [e])), 0, rfl⟩

set_option maxRecDepth 100000 in
set_option maxHeartbeats 1000000 in
theorem eqExts_any (w : World) (u v : Value) (l m : List ExtD) (hu : ExtsV w u l) (hv : ExtsV w v m) :
    Calls Tryz.prog 22 #[u, v] w fun e w' => e = .returned (.bool (decide (l = m))) ∧ ∃ n, w' = w.drewN n := by
  obtain ⟨A, ca, rfl, hsa⟩ := hu.form
  obtain ⟨B, cb, rfl, hsb⟩ := hv.form
  have HU := Lib.hid hu
  have HV := Lib.hid hv
  clear hu hv
  by_cases hlen : l.length = m.length
  · obtain ⟨n, hn⟩ : ∃ n, l.length = n := ⟨_, rfl⟩
    have HN := Lib.hid (And.intro hn (hlen.symm.trans hn))
    rw [← hlen, hn] at HV ⊢
    rw [hn] at HU hsa
    clear hlen hn hsb
    go_enter Tryz.func22, Tryz.ntmps22
    go_wp2
    go_loopw [13] (fun i wr => EqR (fun k => k ≤ n ∧ l.take k = m.take k) w i wr) (fun i _ => n - (RowKit.intOf i).toNat)
    case atStart => exact ⟨0, ⟨Nat.zero_le _, rfl⟩, rfl, 0, rfl⟩
    case round =>
      obtain ⟨k, ⟨hk, he⟩, rfl, nd, rfl⟩ := hrel
      have HE := Lib.hid he
      clear he
      by_cases hlt : k < n
      · obtain ⟨c, hc⟩ : ∃ c, l[k]? = some c := ⟨_, List.getElem?_eq_getElem (by rw [HN.out.1]; exact hlt)⟩
        obtain ⟨d, hd⟩ : ∃ d, m[k]? = some d := ⟨_, List.getElem?_eq_getElem (by rw [HN.out.2]; exact hlt)⟩
        obtain ⟨ka, oa, rfl, _, g0, g1, g2, g3, g4⟩ := HU.out.cells hc
        obtain ⟨kb, ob, rfl, _, h0, h1, h2, h3, h4⟩ := HV.out.cells hd
        have HC := Lib.hid (And.intro hc hd)
        have i1 : (0 : Int) ≤ (k : Int) := by omega
        have i2 : (k : Int) < (n : Int) := by omega
        have hq := fun w => neq_ext c d w
        by_cases hcd : c = d
        · subst hcd
          simp only [decide_true, Bool.not_true] at hq
          clear hc hd hk
          go_wp2
          go_quiet (fail)
          go_wp2
          exact ⟨⟨k + 1, ⟨hlt, by rw [List.take_add_one, List.take_add_one, HE.out, HC.out.1, HC.out.2]⟩, by go_num, _, rfl⟩, by simp [RowKit.intOf]; omega⟩
        · simp only [hcd, decide_false, Bool.not_false] at hq
          have HCD := Lib.hid hcd
          clear hc hd hk hcd
          go_wp2
          go_quiet (fail)
          go_wp2
          go_ret
          exact ⟨ret_bool (by symm; rw [decide_eq_false_iff_not]; intro e; exact HCD.out (by have h1 := HC.out.1; have h2 := HC.out.2; rw [e, h2] at h1; exact (Option.some.inj h1).symm)), drewN_two _ _ _⟩
      · obtain rfl : k = n := by omega
        go_wp2
        go_ret
        exact ⟨ret_bool (by have := HE.out; rw [List.take_of_length_le (Nat.le_of_eq HN.out.1), List.take_of_length_le (Nat.le_of_eq HN.out.2)] at this; simp [this]), nd, rfl⟩
  · have hl : ((l.length : Int) == (m.length : Int)) = false := by simp; omega
    have hl' : ((l.length : Int) != (m.length : Int)) = true := by simp; omega
    have HL := Lib.hid hlen
    clear hlen
    go_enter Tryz.func22, Tryz.ntmps22
    go_wp2
    go_ret
    exact ⟨ret_bool (by symm; rw [decide_eq_false_iff_not]; intro e; exact HL.out (by rw [e])), 0, rfl⟩


end Go.Proofs.YtcfgppjhgobboaaGreatDoor
