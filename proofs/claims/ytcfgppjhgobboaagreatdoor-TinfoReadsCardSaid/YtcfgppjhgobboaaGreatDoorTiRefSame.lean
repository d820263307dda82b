/-
  What Same of the document returns, of two entries that are the same.
-/
import Derived.Test.YtcfgppjhgobboaaGreatDoorTiSet
import Derived.BigQuiet
namespace Go.Proofs.YtcfgppjhgobboaaGreatDoor
open Go.RowKit Go.Shelf Go.Lib
attribute [local go_sem] Oper.semAt_some

/-- without the zero ones at the end -/
def trimR (l : List CapD) : List CapD := (l.reverse.dropWhile fun c => decide (c = cap0)).reverse
theorem trimR_snoc (l : List CapD) (c : CapD) : trimR (l ++ [c]) = if c = cap0 then trimR l else l ++ [c] := by
  unfold trimR
  rw [List.reverse_append]
  simp only [List.reverse_cons, List.reverse_nil, List.nil_append, List.cons_append, List.dropWhile_cons]
  by_cases h : c = cap0
  · simp [h]
  · simp [h]
theorem trimR_take {l : List CapD} {k : Nat} {c : CapD} (h : l[k]? = some c) : trimR (l.take (k + 1)) = if c = cap0 then trimR (l.take k) else l.take (k + 1) := by
  have e : l.take (k + 1) = l.take k ++ [c] := by rw [List.take_add_one, h]; rfl
  rw [e, trimR_snoc]
theorem trimR_prefix (l : List CapD) : trimR l <+: l := by
  unfold trimR
  have := List.dropWhile_suffix (l := l.reverse) fun c => decide (c = cap0)
  have h2 := List.reverse_prefix.2 this
  rwa [List.reverse_reverse] at h2
theorem eql_cap (a b : CapD) (w : World) : (binOp .eql 37 (capVal a) (capVal b)).run Tryz.prog w = .ok (.bool (decide (a = b))) w := by
  obtain ⟨a1, a2, a3⟩ := a
  obtain ⟨b1, b2, b3⟩ := b
  simp [go_sem]
  by_cases h1 : a1 = b1 <;> by_cases h2 : a2 = b2 <;> by_cases h3 : a3 = b3 <;> simp [h1, h2, h3]
def TrimRR (l : List CapD) (A : Option Addr) (cap : Nat) (v : Value) : Prop := ∃ k : Nat, k ≤ l.length ∧ v = .slice A k cap ∧ trimR l = trimR (l.take k)
set_option maxRecDepth 100000 in
theorem trim_any (w : World) (A : Option Addr) (cap : Nat) (l : List CapD) (h : CapsV w (.slice A l.length cap) l) :
    Calls Tryz.prog 86 #[.slice A l.length cap] w fun e w' => e = .returned (.slice A (trimR l).length cap) ∧ w = w' := by
  have hbz := build_cap0
  have H := Lib.hid h
  have hsm : l.length * 32 ≤ 140737488355328 := by obtain ⟨_, _, _, h2⟩ := h.form; exact h2
  have hcap : l.length ≤ cap := by obtain ⟨A', c', e, h1, _⟩ := h; injection e with _ _ e3; omega
  clear h
  obtain ⟨n, hn⟩ : ∃ n, l.length = n := ⟨_, rfl⟩
  have HN := Lib.hid hn
  rw [hn] at hsm hcap ⊢
  clear hn
  go_enter Tryz.func86, Tryz.ntmps86
  go_wp2
  go_loop [0] (fun v => TrimRR l A cap v) (fun v => lenV v)
  case atStart => exact ⟨n, by rw [HN.out]; exact Nat.le_refl _, rfl, by rw [List.take_of_length_le (by rw [HN.out]; exact Nat.le_refl _)]⟩
  case round =>
    obtain ⟨k, hk, rfl, hr⟩ := hrel
    rw [HN.out] at hk
    have HR := Lib.hid hr
    clear hr
    match k with
    | 0 =>
      go_wp2
      go_ret
      exact ⟨by rw [HR.out]; rfl, rfl⟩
    | k + 1 =>
      obtain ⟨c, hc⟩ : ∃ c, l[k]? = some c := ⟨_, List.getElem?_eq_getElem (by rw [HN.out]; omega)⟩
      obtain ⟨kb, off, rfl, _, g0, g1, g2⟩ := H.out.cells hc
      have ht := trimR_take hc
      have h1 : (0 : Int) < ((k + 1 : Nat) : Int) := by omega
      have h2 : ((k + 1 : Nat) : Int) - 1 = (k : Int) := by omega
      have h3 : (k : Int) < ((k + 1 : Nat) : Int) := by omega
      have HT := Lib.hid ht
      have hkn : k + 1 ≤ n := hk
      have hq := fun w => eql_cap c cap0 w
      simp only [show capVal cap0 = .agg #[.int .i64 0, .int .i64 0, .string ⟨#[]⟩] from rfl] at hq
      clear hc ht hk
      by_cases hst : c = cap0
      · have HST := Lib.hid hst
        rw [show decide (c = cap0) = true by simp [hst]] at hq
        clear hst
        go_wp2
        exact ⟨⟨k, by rw [HN.out]; omega, rfl, by rw [HR.out, HT.out, if_pos HST.out]⟩, by simp [lenV]⟩
      · have HST := Lib.hid hst
        rw [show decide (c = cap0) = false by simp [hst]] at hq
        clear hst
        go_wp2
        go_ret
        have e : trimR l = l.take (k + 1) := by rw [HR.out, HT.out, if_neg HST.out]
        have e2 : (trimR l).length = k + 1 := by rw [e, List.length_take, HN.out]; omega
        rw [e2]
        exact ⟨rfl, rfl⟩

set_option maxRecDepth 100000 in
set_option maxHeartbeats 1000000 in
theorem sameCaps_eq (w : World) (u v : Value) (l : List CapD) (hu : CapsV w u l) (hv : CapsV w v l) :
    Calls Tryz.prog 32 #[u, v] w fun e w' => e = .returned (.bool true) ∧ ∃ n, w' = w.drewN n := by
  obtain ⟨A, ca, rfl, _⟩ := hu.form
  obtain ⟨B, cb, rfl, _⟩ := hv.form
  have C1 := Lib.hid (trim_any w A ca l hu)
  have C2 := Lib.hid (trim_any w B cb l hv)
  have HU := Lib.hid (hu.prefix (trimR_prefix l))
  have HV := Lib.hid (hv.prefix (trimR_prefix l))
  obtain ⟨m, hm⟩ : ∃ m, m = trimR l := ⟨_, rfl⟩
  rw [← hm] at C1 C2 HU HV
  clear hu hv hm
  obtain ⟨n, hn⟩ : ∃ n, m.length = n := ⟨_, rfl⟩
  have HN := Lib.hid hn
  have hsn : n * 32 ≤ 140737488355328 := by obtain ⟨_, _, _, h2⟩ := HU.out.form; rw [hn] at h2; exact h2
  rw [hn] at C1 C2 HU HV
  clear hn
  go_enter Tryz.func32, Tryz.ntmps32
  go_wp2_with (first
    | (go_at_call 86; with_reducible refine (C1.out).mono ?_; rintro e w' ⟨rfl, rfl⟩)
    | (go_at_call 86; with_reducible refine (C2.out).mono ?_; rintro e w' ⟨rfl, rfl⟩))
  go_loopw [5] (fun i wr => EqR (fun k => k ≤ n) w i wr) (fun i _ => n - (RowKit.intOf i).toNat)
  case atStart => exact ⟨0, Nat.zero_le _, rfl, 0, rfl⟩
  case round =>
    obtain ⟨k, hk, rfl, nd, rfl⟩ := hrel
    by_cases hlt : k < n
    · obtain ⟨c, hc⟩ : ∃ c, m[k]? = some c := ⟨_, List.getElem?_eq_getElem (by rw [HN.out]; exact hlt)⟩
      obtain ⟨ka, oa, rfl, _, g0, g1, g2⟩ := HU.out.cells hc
      obtain ⟨kb, ob, rfl, _, h0, h1, h2⟩ := HV.out.cells hc
      have i1 : (0 : Int) ≤ (k : Int) := by omega
      have i2 : (k : Int) < (n : Int) := by omega
      have hq := fun w => neq_cap c c w
      simp only [decide_true, Bool.not_true] at hq
      clear hc hk
      go_wp2
      go_quiet (fail)
      go_wp2
      exact ⟨⟨k + 1, hlt, by go_num, _, rfl⟩, by simp [RowKit.intOf]; omega⟩
    · obtain rfl : k = n := by omega
      go_wp2
      go_ret
      exact ⟨rfl, nd, rfl⟩

set_option maxRecDepth 1000000 in
set_option maxHeartbeats 8000000 in
theorem refSame_eq (w : World) (t : TermD) (u v : Nat → Value) (ue ve : Value) (hu : TermV w u ue t) (hv : TermV w v ve t) :
    Calls Tryz.prog 10 #[termVal t u ue, termVal t v ve] w fun e w' => e = .returned (.bool true) ∧ Below w.heap.size w w' := by
  obtain ⟨A0, n0, A1, n1, A2, n2, A3, n3, e0, e1, e2, e3, ⟨_, _, _, s3⟩, g0, g1, g2, g3⟩ := hu.forms
  obtain ⟨B0, m0, B1, m1, B2, m2, B3, m3, d0, d1, d2, d3, _, h0, h1, h2, h3⟩ := hv.forms
  rw [termVal_open e0 e1 e2 e3, termVal_open d0 d1 d2 d3]
  clear hu hv e0 e1 e2 e3 d0 d1 d2 d3
  obtain ⟨nm, wd, l0, l1, l2, l3⟩ := t
  simp only at s3 g0 g1 g2 g3 h0 h1 h2 h3 ⊢
  have hb : Below w.heap.size w ((w.alloc (termObj nm wd (.slice A0 l0.length n0) (.slice A1 l1.length n1) (.slice A2 l2.length n2) (.slice A3 l3.length n3))).alloc (termObj nm wd (.slice B0 l0.length m0) (.slice B1 l1.length m1) (.slice B2 l2.length m2) (.slice B3 l3.length m3))) := ((Below.refl _ w).alloc (Nat.le_refl _) _).alloc (by simp) _
  have C0 := Lib.hid (sameCaps_eq _ _ _ _ (g0.below hb) (h0.below hb))
  have C1 := Lib.hid (fun n => sameCaps_eq _ _ _ _ ((g1.below hb).drewN n) ((h1.below hb).drewN n))
  have C2 := Lib.hid (fun n => sameCaps_eq _ _ _ _ ((g2.below hb).drewN n) ((h2.below hb).drewN n))
  have HU := Lib.hid (g3.below hb)
  have HV := Lib.hid (h3.below hb)
  have HB := Lib.hid hb
  clear g0 g1 g2 g3 h0 h1 h2 h3 hb
  have HXX : Hid (((w.alloc (termObj nm wd (.slice A0 l0.length n0) (.slice A1 l1.length n1) (.slice A2 l2.length n2) (.slice A3 l3.length n3))).alloc (termObj nm wd (.slice B0 l0.length m0) (.slice B1 l1.length m1) (.slice B2 l2.length m2) (.slice B3 l3.length m3))).heap[w.heap.size]? = some (termObj nm wd (.slice A0 l0.length n0) (.slice A1 l1.length n1) (.slice A2 l2.length n2) (.slice A3 l3.length n3)) ∧
      ((w.alloc (termObj nm wd (.slice A0 l0.length n0) (.slice A1 l1.length n1) (.slice A2 l2.length n2) (.slice A3 l3.length n3))).alloc (termObj nm wd (.slice B0 l0.length m0) (.slice B1 l1.length m1) (.slice B2 l2.length m2) (.slice B3 l3.length m3))).heap[w.heap.size + 1]? = some (termObj nm wd (.slice B0 l0.length m0) (.slice B1 l1.length m1) (.slice B2 l2.length m2) (.slice B3 l3.length m3))) := Lib.hid ⟨by rw [Below.heap_alloc _ _ _ (by simp)]; exact World.alloc_heap_new w _, by have := World.alloc_heap_new (w.alloc (termObj nm wd (.slice A0 l0.length n0) (.slice A1 l1.length n1) (.slice A2 l2.length n2) (.slice A3 l3.length n3))) (termObj nm wd (.slice B0 l0.length m0) (.slice B1 l1.length m1) (.slice B2 l2.length m2) (.slice B3 l3.length m3)); rwa [World.size_alloc] at this⟩
  generalize l0.length = k0 at *
  generalize l1.length = k1 at *
  generalize l2.length = k2 at *
  obtain ⟨n, hn⟩ : ∃ n, l3.length = n := ⟨_, rfl⟩
  have HN := Lib.hid hn
  rw [hn] at HU HV HB C0 C1 C2 s3 HXX ⊢
  clear hn
  go_enter Tryz.func10, Tryz.ntmps10
  go_wp2_with (first
    | (go_at_call 32; with_reducible refine (C0.out).mono ?_; rintro e w' ⟨rfl, na, rfl⟩)
    | (go_at_call 32; with_reducible refine (C1.out _).mono ?_; rintro e w' ⟨rfl, nb, rfl⟩; obtain ⟨nab, hab⟩ := drewN_two ((w.alloc (termObj nm wd (.slice A0 k0 n0) (.slice A1 k1 n1) (.slice A2 k2 n2) (.slice A3 n n3))).alloc (termObj nm wd (.slice B0 k0 m0) (.slice B1 k1 m1) (.slice B2 k2 m2) (.slice B3 n m3))) na nb; rw [hab]; clear hab)
    | (go_at_call 32; with_reducible refine (C2.out _).mono ?_; rintro e w' ⟨rfl, nc, rfl⟩; obtain ⟨nabc, habc⟩ := drewN_two ((w.alloc (termObj nm wd (.slice A0 k0 n0) (.slice A1 k1 n1) (.slice A2 k2 n2) (.slice A3 n n3))).alloc (termObj nm wd (.slice B0 k0 m0) (.slice B1 k1 m1) (.slice B2 k2 m2) (.slice B3 n m3))) nab nc; rw [habc]; clear habc))
  generalize (w.alloc (termObj nm wd (.slice A0 k0 n0) (.slice A1 k1 n1) (.slice A2 k2 n2) (.slice A3 n n3))).alloc (termObj nm wd (.slice B0 k0 m0) (.slice B1 k1 m1) (.slice B2 k2 m2) (.slice B3 n m3)) = X at *
  obtain ⟨HX1, HX2⟩ := HXX.out
  have b1 : X.cell? ⟨w.heap.size, 5, none⟩ = some (.slice A3 n n3) := cell_of_row X w.heap.size 5 _ _ _ HX1
  have b2 : X.cell? ⟨w.heap.size + 1, 5, none⟩ = some (.slice B3 n m3) := cell_of_row X (w.heap.size + 1) 5 _ _ _ HX2
  clear HX1 HX2
  go_loopw [5] (fun i wr => EqR (fun k => k ≤ n) X i wr) (fun i _ => n - (RowKit.intOf i).toNat)
  case atStart => exact ⟨0, Nat.zero_le _, rfl, _, rfl⟩
  case round =>
    obtain ⟨k, hk, rfl, nd, rfl⟩ := hrel
    by_cases hlt : k < n
    · obtain ⟨c, hc⟩ : ∃ c, l3[k]? = some c := ⟨_, List.getElem?_eq_getElem (by rw [HN.out]; exact hlt)⟩
      obtain ⟨ka, oa, rfl, _, g0, g1, g2, g3, g4⟩ := HU.out.cells hc
      obtain ⟨kb, ob, rfl, _, h0, h1, h2, h3, h4⟩ := HV.out.cells hc
      have i1 : (0 : Int) ≤ (k : Int) := by omega
      have i2 : (k : Int) < (n : Int) := by omega
      have hq := fun w => neq_ext c c w
      simp only [decide_true, Bool.not_true] at hq
      clear hc hk
      go_wp2
      go_quiet (fail)
      go_wp2
      exact ⟨⟨k + 1, hlt, by go_num, _, rfl⟩, by simp [RowKit.intOf]; omega⟩
    · obtain rfl : k = n := by omega
      go_wp2
      go_ret
      exact ⟨rfl, below_drewN HB.out _⟩

end Go.Proofs.YtcfgppjhgobboaaGreatDoor
