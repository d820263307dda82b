/-
  What cap1, caps, named of the document return.
  What caps and named of the document return.
  What long and Check of the document return.
-/
import Derived.Test.YtcfgppjhgobboaaGreatDoorTmGet
import Derived.Deep.RegionWith
namespace Go.Proofs.YtcfgppjhgobboaaGreatDoor
section
open Go.RowKit Go.Shelf Go.Lib
attribute [local go_sem] Oper.semAt_some

theorem indexByte_any (s : List UInt8) (w : World) : Calls Tryz.prog 78 #[str s, .int .u8 0] w fun e w' => e = .returned (.int .i64 (indexByte s 0)) ∧ w = w' :=
  (Any.strings_IndexByte Tryz.layIndexByte ⟨s.toArray⟩ 0 w).mono fun _ _ ⟨h1, h2⟩ => ⟨h1, h2.symm⟩

set_option maxRecDepth 100000 in
set_option maxHeartbeats 2000000 in
theorem cap1_any (w : World) (c : CapD) (kind : Int) (wide : Bool) : Calls Tryz.prog 96 #[capVal c, .int .i64 kind, .bool wide] w fun e w' => e = .returned (.bool (fitsP c kind (topP wide))) ∧ Below w.heap.size w w' := by
  obtain ⟨st, num, text⟩ := c
  have CI := Lib.hid (fun W => indexByte_any text W)
  obtain ⟨ib, hib⟩ : ∃ ib, ib = indexByte text 0 := ⟨_, rfl⟩
  rw [← hib] at CI
  have h0 : text = [] → ib = -1 := fun h => by rw [hib, h]; rfl
  have HIB := Lib.hid hib
  have H0 := Lib.hid h0
  clear hib h0
  cases wide
  all_goals
    go_enter Tryz.func96, Tryz.ntmps96
    go_wp2_with (go_at_call 78; refine (CI.out _).mono ?_; rintro e w' ⟨rfl, rfl⟩)
    all_goals
      go_ret
      refine ⟨ret_bool ?_, (Below.refl _ _).alloc (Nat.le_refl _) _⟩
      have hib := HIB.out
      have h0 := H0.out
      clear CI HIB H0
      unfold fitsP topP hasEndP bareP
      (try simp only [])
      (try rw [← hib])
      clear hib
      first
        | (simp_all; done)
        | (simp_all; omega)
        | (simp_all; rw [if_neg (by omega)]; intros; omega)
        | (simp_all; intros; simp_all; omega)
        | (simp_all; by_cases hi : ib < 0 <;> simp [hi] <;> omega)
        | (simp_all; have hs : st = 0 ∨ st = 2 := by omega
           rcases hs with rfl | rfl <;> simp_all)
end

section
open Go.RowKit Go.Shelf Go.Lib
attribute [local go_sem] Oper.semAt_some

set_option maxRecDepth 100000 in
theorem caps_any (w : World) (v : Value) (l : List CapD) (kind : Int) (wide : Bool) (h : CapsV w v l) : Calls Tryz.prog 95 #[v, .int .i64 kind, .bool wide] w fun e w' => e = .returned (.bool (l.all fun c => fitsP c kind (topP wide))) ∧ Below w.heap.size w w' := by
  obtain ⟨A, cap, rfl, hsm⟩ := h.form
  have H := Lib.hid h
  clear h
  obtain ⟨n, hn⟩ : ∃ n, l.length = n := ⟨_, rfl⟩
  have HN := Lib.hid hn
  rw [hn] at H hsm ⊢
  clear hn
  go_enter Tryz.func95, Tryz.ntmps95
  go_wp2_with fail
  go_loopw [7] (fun i wr => LoopB w (fun k => k ≤ n ∧ ((l.take k).all fun c => fitsP c kind (topP wide)) = true) i wr) (fun i _ => n - (RowKit.intOf i).toNat)
  case atStart => exact ⟨0, rfl, ⟨Nat.zero_le _, rfl⟩, Below.refl _ _⟩
  case round =>
    obtain ⟨k, rfl, ⟨hk, hno⟩, hb⟩ := hrel
    have HNO := Lib.hid hno
    have HB := Lib.hid hb
    clear hno hb
    by_cases hlt : k < n
    · obtain ⟨c, hc⟩ : ∃ c, l[k]? = some c := ⟨_, List.getElem?_eq_getElem (by rw [HN.out]; exact hlt)⟩
      obtain ⟨kb, off, rfl, hkb, g0, g1, g2⟩ := H.out.cells hc
      rw [← HB.out.cell (p := ⟨kb, off + k * 3, none⟩) hkb] at g0
      rw [← HB.out.cell (p := ⟨kb, off + k * 3 + 1, none⟩) hkb] at g1
      rw [← HB.out.cell (p := ⟨kb, off + k * 3 + 2, none⟩) hkb] at g2
      have i1 : (0 : Int) ≤ (k : Int) := by omega
      have i2 : (k : Int) < (n : Int) := by omega
      have HC := Lib.hid hc
      have CF := Lib.hid (fun W => cap1_any W c kind wide)
      clear hc hkb
      cases hq : fitsP c kind (topP wide) with
      | false =>
        have HQ := Lib.hid hq
        rw [hq] at CF
        clear hq
        go_wp2_with (go_at_call 96; refine (CF.out _).mono ?_; rintro e w2 ⟨rfl, hb2⟩; have HB2 := Lib.hid (HB.out.trans (hb2.mono HB.out.size)); clear hb2)
        go_ret
        exact ⟨ret_bool (by symm; exact all_at HC.out HQ.out), HB2.out⟩
      | true =>
        have HQ := Lib.hid hq
        rw [hq] at CF
        clear hq
        go_wp2_with (go_at_call 96; refine (CF.out _).mono ?_; rintro e w2 ⟨rfl, hb2⟩; have HB2 := Lib.hid (HB.out.trans (hb2.mono HB.out.size)); clear hb2)
        exact ⟨⟨k + 1, by go_num, ⟨hlt, all_next HC.out HNO.out HQ.out⟩, HB2.out⟩, by simp [RowKit.intOf]; omega⟩
    · obtain rfl : k = n := by omega
      go_wp2_with fail
      go_ret
      exact ⟨ret_bool (by symm; exact all_end (Nat.le_of_eq HN.out) HNO.out), HB.out⟩

theorem contains_at {l : List ExtD} {name : List UInt8} {k : Nat} {x : ExtD} (hx : l[k]? = some x) (h : (x.name == name) = true) : (l.map (·.name)).contains name = true := by
  rw [List.contains_iff_mem]
  have := List.mem_map_of_mem (f := fun x : ExtD => x.name) (List.mem_of_getElem? hx)
  rwa [show x.name = name by simpa using h] at this
theorem contains_none {l : List ExtD} {name : List UInt8} (hno : (l.any fun x => x.name == name) = false) : (l.map (·.name)).contains name = false := by
  rw [Bool.eq_false_iff]
  intro h
  rw [List.contains_iff_mem] at h
  obtain ⟨x, hx, he⟩ := List.mem_map.1 h
  have := List.any_eq_false.1 hno x hx
  simp [he] at this

set_option maxRecDepth 100000 in
set_option maxHeartbeats 2000000 in
theorem named_any (w : World) (v : Value) (l : List ExtD) (h : ExtsV w v l) (hT : Tabs w) (name : List UInt8) : Calls Tryz.prog 83 #[v, str name] w fun e w' => e = .returned (.bool (addP (l.map (·.name)) name)) ∧ Below w.heap.size w w' := by
  obtain ⟨A, cap, rfl, hsm⟩ := h.form
  have H := Lib.hid h
  have CP := Lib.hid (refPlace_any name w hT)
  have CI := Lib.hid (fun W => indexByte_any name W)
  have HV : Hid (addP (l.map (·.name)) name = (isNameP name && !((l.map (·.name)).contains name) && (placeP name).isNone)) := Lib.hid rfl
  have hpl : placeRes name = .tuple #[.int .i64 ((placeP name).getD (0, 0)).1, .int .i64 ((placeP name).getD (0, 0)).2, .bool (placeP name).isSome] := by
    unfold placeRes
    cases placeP name <;> rfl
  unfold PlacePost at CP
  rw [hpl] at CP
  generalize addP (l.map (·.name)) name = res at *
  generalize (placeP name).getD (0, 0) = pq at *
  clear h hT hpl
  obtain ⟨n, hln⟩ : ∃ n, l.length = n := ⟨_, rfl⟩
  have HL := Lib.hid hln
  rw [hln] at H hsm ⊢
  clear hln
  cases hp : placeP name with
  | some q =>
    rw [hp] at CP HV
    have HR : Hid (res = false) := Lib.hid (by rw [HV.out]; simp)
    simp only [Option.isSome_some] at CP
    clear HV hp
    go_enter Tryz.func83, Tryz.ntmps83
    go_wp2_with (go_at_call 54; refine (CP.out).mono ?_; rintro e w2 ⟨rfl, hb2⟩; have HB2 := Lib.hid hb2; clear hb2)
    go_ret
    exact ⟨ret_bool HR.out.symm, HB2.out⟩
  | none =>
    rw [hp] at CP HV
    simp only [Option.isSome_none] at CP
    have HV2 : Hid (res = (isNameP name && !((l.map (·.name)).contains name))) := Lib.hid (by rw [HV.out]; simp)
    clear HV hp
    by_cases hnm : isNameP name = true
    · have hne : name.isEmpty = false := by cases name with | nil => simp [isNameP] at hnm | cons _ _ => rfl
      have hib : ¬ 0 ≤ indexByte name 0 := by intro h; simp [isNameP, hasEndP, h] at hnm
      have HV3 : Hid (res = !((l.map (·.name)).contains name)) := Lib.hid (by rw [HV2.out, hnm]; simp)
      have hib2 : decide (0 ≤ indexByte name 0) = false := by simpa using hib
      clear hib
      generalize indexByte name 0 = ib at *
      clear HV2 hnm
      go_enter Tryz.func83, Tryz.ntmps83
      go_wp2_with (first
        | (go_at_call 54; refine (CP.out).mono ?_; rintro e w2 ⟨rfl, hb2⟩; have HB2 := Lib.hid hb2; clear hb2)
        | (go_at_call 78; refine (CI.out _).mono ?_; rintro e w' ⟨rfl, rfl⟩))
      go_loopw [8] (fun i wr => LoopB w (fun k => k ≤ n ∧ ((l.take k).any fun x => x.name == name) = false) i wr) (fun i _ => n - (RowKit.intOf i).toNat)
      case atStart => exact ⟨0, rfl, ⟨Nat.zero_le _, rfl⟩, HB2.out⟩
      case round =>
        obtain ⟨k, rfl, ⟨hk, hno⟩, hb⟩ := hrel
        have HNO := Lib.hid hno
        have HB := Lib.hid hb
        clear hno hb
        by_cases hlt : k < n
        · obtain ⟨x, hx⟩ : ∃ x, l[k]? = some x := ⟨_, List.getElem?_eq_getElem (by rw [HL.out]; exact hlt)⟩
          obtain ⟨kb, off, rfl, hkb, g0, g1, g2, g3, g4⟩ := H.out.cells hx
          rw [← HB.out.cell (p := ⟨kb, off + k * 5 + 1, none⟩) hkb] at g1
          have i1 : (0 : Int) ≤ (k : Int) := by omega
          have i2 : (k : Int) < (n : Int) := by omega
          have HX := Lib.hid hx
          clear hx hkb g0 g2 g3 g4
          by_cases hq : x.name = name
          · have HQ := Lib.hid hq
            clear hq
            have hq2 : (x.name == name) = true := by simpa using HQ.out
            go_wp2_with fail
            go_ret
            exact ⟨ret_bool (by rw [HV3.out, contains_at HX.out (by simpa using HQ.out)]; rfl), HB.out⟩
          · have HQ := Lib.hid hq
            have hq2 : (x.name == name) = false := by simpa using hq
            clear hq
            go_wp2_with fail
            exact ⟨⟨k + 1, by go_num, ⟨hlt, any_next HX.out HNO.out (by simpa using HQ.out)⟩, HB.out⟩, by simp [RowKit.intOf]; omega⟩
        · obtain rfl : k = n := by omega
          go_wp2_with fail
          go_ret
          exact ⟨ret_bool (by rw [HV3.out, contains_none (any_end (Nat.le_of_eq HL.out) HNO.out)]; rfl), HB.out⟩
    · have HR : Hid (res = false) := Lib.hid (by rw [HV2.out]; simp [hnm])
      have hor : name = [] ∨ (name ≠ [] ∧ 0 ≤ indexByte name 0) := by
        by_cases h1 : name = []
        · exact .inl h1
        · refine .inr ⟨h1, ?_⟩
          have h2 : name.isEmpty = false := by simpa using h1
          by_cases h3 : 0 ≤ indexByte name 0
          · exact h3
          · exact absurd (by simp [isNameP, hasEndP, h2, h3]) hnm
      clear HV2 hnm
      rcases hor with rfl | ⟨hne, hib⟩
      · go_enter Tryz.func83, Tryz.ntmps83
        go_wp2_with (go_at_call 54; refine (CP.out).mono ?_; rintro e w2 ⟨rfl, hb2⟩; have HB2 := Lib.hid hb2; clear hb2)
        go_ret
        exact ⟨ret_bool HR.out.symm, HB2.out⟩
      · generalize indexByte name 0 = ib at *
        go_enter Tryz.func83, Tryz.ntmps83
        go_wp2_with (first
          | (go_at_call 54; refine (CP.out).mono ?_; rintro e w2 ⟨rfl, hb2⟩; have HB2 := Lib.hid hb2; clear hb2)
          | (go_at_call 78; refine (CI.out _).mono ?_; rintro e w' ⟨rfl, rfl⟩))
        go_ret
        exact ⟨ret_bool HR.out.symm, HB2.out⟩
end

section
open Go.RowKit Go.Shelf Go.Lib
attribute [local go_sem] Oper.semAt_some

def CountI (n : Nat) (p : Nat → Prop) (i : Value) : Prop := ∃ k : Nat, i = .int .i64 k ∧ k ≤ n ∧ p k

set_option maxRecDepth 100000 in
set_option maxHeartbeats 4000000 in
theorem long_any (w : World) (t : TermD) (v : Nat → Value) (ve : Value) (h : TermV w v ve t) (hT : Tabs w) : Calls Tryz.prog 94 #[termVal t v ve] w fun e w' => e = .returned (.bool (tooLongP t)) ∧ Below w.heap.size w w' := by
  obtain ⟨A0, n0, A1, n1, A2, n2, A3, n3, e0, e1, e2, e3, ⟨s0, s1, s2, s3⟩, g0, g1, g2, g3⟩ := h.forms
  show Calls _ _ #[.agg #[str t.names, .bool t.wide, v 0, v 1, v 2, ve]] _ _
  rw [e0, e1, e2, e3]
  clear h e0 e1 e2 e3
  obtain ⟨nm, wd, l0, l1, l2, l3⟩ := t
  simp only at s0 s1 s2 s3 g0 g1 g2 g3 ⊢
  have HV : Hid (tooLongP ⟨nm, wd, l0, l1, l2, l3⟩ = ((decide (511 < nm.length) || decide (64 < l0.length) || decide (64 < l1.length) || decide (512 < l2.length) || decide (256 < l3.length)) || longExt l3 || (longText l0 || longText l1 || longText l2))) := Lib.hid rfl
  generalize tooLongP ⟨nm, wd, l0, l1, l2, l3⟩ = res at *
  by_cases q0 : 511 < nm.length
  · have HQ : Hid (res = true) := Lib.hid (by rw [HV.out]; simp [q0])
    have r0 : (511 : Int) < (nm.length : Int) := by omega
    clear q0 HV g0 g1 g2 g3 hT
    go_enter Tryz.func94, Tryz.ntmps94
    go_wp2_with fail
    go_ret
    exact ⟨ret_bool HQ.out.symm, (Below.refl _ _).alloc (Nat.le_refl _) _⟩
  have r0 : ¬ (511 : Int) < (nm.length : Int) := by omega
  by_cases q1 : 64 < l0.length
  · have HQ : Hid (res = true) := Lib.hid (by rw [HV.out]; simp [q1])
    have r1 : (64 : Int) < (l0.length : Int) := by omega
    clear q1 HV g0 g1 g2 g3 hT
    go_enter Tryz.func94, Tryz.ntmps94
    go_wp2_with fail
    go_ret
    exact ⟨ret_bool HQ.out.symm, (Below.refl _ _).alloc (Nat.le_refl _) _⟩
  have r1 : ¬ (64 : Int) < (l0.length : Int) := by omega
  by_cases q2 : 64 < l1.length
  · have HQ : Hid (res = true) := Lib.hid (by rw [HV.out]; simp [q2])
    have r2 : (64 : Int) < (l1.length : Int) := by omega
    clear q2 HV g0 g1 g2 g3 hT
    go_enter Tryz.func94, Tryz.ntmps94
    go_wp2_with fail
    go_ret
    exact ⟨ret_bool HQ.out.symm, (Below.refl _ _).alloc (Nat.le_refl _) _⟩
  have r2 : ¬ (64 : Int) < (l1.length : Int) := by omega
  by_cases q3 : 512 < l2.length
  · have HQ : Hid (res = true) := Lib.hid (by rw [HV.out]; simp [q3])
    have r3 : (512 : Int) < (l2.length : Int) := by omega
    clear q3 HV g0 g1 g2 g3 hT
    go_enter Tryz.func94, Tryz.ntmps94
    go_wp2_with fail
    go_ret
    exact ⟨ret_bool HQ.out.symm, (Below.refl _ _).alloc (Nat.le_refl _) _⟩
  have r3 : ¬ (512 : Int) < (l2.length : Int) := by omega
  by_cases q4 : 256 < l3.length
  · have HQ : Hid (res = true) := Lib.hid (by rw [HV.out]; simp [q4])
    have r4 : (256 : Int) < (l3.length : Int) := by omega
    clear q4 HV g0 g1 g2 g3 hT
    go_enter Tryz.func94, Tryz.ntmps94
    go_wp2_with fail
    go_ret
    exact ⟨ret_bool HQ.out.symm, (Below.refl _ _).alloc (Nat.le_refl _) _⟩
  have r4 : ¬ (256 : Int) < (l3.length : Int) := by omega
  have HV2 : Hid (res = (longExt l3 || (longText l0 || longText l1 || longText l2))) := Lib.hid (by rw [HV.out]; simp [q0, q1, q2, q3, q4])
  clear HV q0 q1 q2 q3 q4
  have HI := Lib.hid (InBox.made w hT nm wd (.slice A0 l0.length n0) (.slice A1 l1.length n1) (.slice A2 l2.length n2) (.slice A3 l3.length n3))
  have hb : Below w.heap.size w (w.alloc (termObj nm wd (.slice A0 l0.length n0) (.slice A1 l1.length n1) (.slice A2 l2.length n2) (.slice A3 l3.length n3))) := (Below.refl _ w).alloc (Nat.le_refl _) _
  obtain ⟨c0, c1, c2, c3, c4, c5⟩ := HI.out.cells
  have G0 := Lib.hid (g0.below hb)
  have G1 := Lib.hid (g1.below hb)
  have G2 := Lib.hid (g2.below hb)
  have G3 := Lib.hid (g3.below hb)
  have HB := Lib.hid hb
  clear hb g0 g1 g2 g3 hT HI c0 c1
  go_enter Tryz.func94, Tryz.ntmps94
  go_wp2_with fail
  generalize w.alloc (termObj nm wd (.slice A0 l0.length n0) (.slice A1 l1.length n1) (.slice A2 l2.length n2) (.slice A3 l3.length n3)) = w1 at *
  go_loop [3] (fun i => CountI l2.length (fun k => ((l2.take k).any fun c => decide (1000 < c.text.length)) = false) i) (fun i => l2.length - (RowKit.intOf i).toNat)
  case atStart => exact ⟨0, rfl, Nat.zero_le _, rfl⟩
  case round =>
    obtain ⟨k, rfl, hk, hno⟩ := hrel
    have HNO := Lib.hid hno
    clear hno
    by_cases hlt : k < l2.length
    · obtain ⟨c, hc⟩ : ∃ c, l2[k]? = some c := ⟨_, List.getElem?_eq_getElem hlt⟩
      obtain ⟨kb, off, rfl, hkb, g0, g1, g2⟩ := G2.out.cells hc
      have i1 : (0 : Int) ≤ (k : Int) := by omega
      have i2 : (k : Int) < (l2.length : Int) := by omega
      have HC := Lib.hid hc
      clear hc hkb
      by_cases hq : 1000 < c.text.length
      · have HQ := Lib.hid hq
        have hq' : (1000 : Int) < (c.text.length : Int) := by omega
        clear hq
        go_wp2_with fail
        go_ret
        exact ⟨ret_bool (by symm; rw [HV2.out, show longText l2 = true from any_at HC.out (by simpa using HQ.out)]; simp), HB.out⟩
      · have hq' : ¬ (1000 : Int) < (c.text.length : Int) := by omega
        have HQ := Lib.hid hq
        clear hq
        go_wp2_with fail
        exact ⟨⟨k + 1, by go_num, hlt, any_next HC.out HNO.out (by simpa using HQ.out)⟩, by simp [RowKit.intOf]; omega⟩
    · obtain rfl : k = l2.length := by omega
      have Hl2 := Lib.hid (show longText l2 = false from any_end (Nat.le_refl _) HNO.out)
      clear HNO
      go_wp2_with fail
      go_loop [4] (fun i => CountI l0.length (fun k => ((l0.take k).any fun c => decide (1000 < c.text.length)) = false) i) (fun i => l0.length - (RowKit.intOf i).toNat)
      case atStart => exact ⟨0, rfl, Nat.zero_le _, rfl⟩
      case round =>
        obtain ⟨k, rfl, hk, hno⟩ := hrel
        have HNO := Lib.hid hno
        clear hno
        by_cases hlt : k < l0.length
        · obtain ⟨c, hc⟩ : ∃ c, l0[k]? = some c := ⟨_, List.getElem?_eq_getElem hlt⟩
          obtain ⟨kb, off, rfl, hkb, g0, g1, g2⟩ := G0.out.cells hc
          have i1 : (0 : Int) ≤ (k : Int) := by omega
          have i2 : (k : Int) < (l0.length : Int) := by omega
          have HC := Lib.hid hc
          clear hc hkb
          by_cases hq : 1000 < c.text.length
          · have HQ := Lib.hid hq
            have hq' : (1000 : Int) < (c.text.length : Int) := by omega
            clear hq
            go_wp2_with fail
            go_ret
            exact ⟨ret_bool (by symm; rw [HV2.out, show longText l0 = true from any_at HC.out (by simpa using HQ.out)]; simp), HB.out⟩
          · have hq' : ¬ (1000 : Int) < (c.text.length : Int) := by omega
            have HQ := Lib.hid hq
            clear hq
            go_wp2_with fail
            exact ⟨⟨k + 1, by go_num, hlt, any_next HC.out HNO.out (by simpa using HQ.out)⟩, by simp [RowKit.intOf]; omega⟩
        · obtain rfl : k = l0.length := by omega
          have Hl0 := Lib.hid (show longText l0 = false from any_end (Nat.le_refl _) HNO.out)
          clear HNO
          go_wp2_with fail
          go_loop [5] (fun i => CountI l1.length (fun k => ((l1.take k).any fun c => decide (1000 < c.text.length)) = false) i) (fun i => l1.length - (RowKit.intOf i).toNat)
          case atStart => exact ⟨0, rfl, Nat.zero_le _, rfl⟩
          case round =>
            obtain ⟨k, rfl, hk, hno⟩ := hrel
            have HNO := Lib.hid hno
            clear hno
            by_cases hlt : k < l1.length
            · obtain ⟨c, hc⟩ : ∃ c, l1[k]? = some c := ⟨_, List.getElem?_eq_getElem hlt⟩
              obtain ⟨kb, off, rfl, hkb, g0, g1, g2⟩ := G1.out.cells hc
              have i1 : (0 : Int) ≤ (k : Int) := by omega
              have i2 : (k : Int) < (l1.length : Int) := by omega
              have HC := Lib.hid hc
              clear hc hkb
              by_cases hq : 1000 < c.text.length
              · have HQ := Lib.hid hq
                have hq' : (1000 : Int) < (c.text.length : Int) := by omega
                clear hq
                go_wp2_with fail
                go_ret
                exact ⟨ret_bool (by symm; rw [HV2.out, show longText l1 = true from any_at HC.out (by simpa using HQ.out)]; simp), HB.out⟩
              · have hq' : ¬ (1000 : Int) < (c.text.length : Int) := by omega
                have HQ := Lib.hid hq
                clear hq
                go_wp2_with fail
                exact ⟨⟨k + 1, by go_num, hlt, any_next HC.out HNO.out (by simpa using HQ.out)⟩, by simp [RowKit.intOf]; omega⟩
            · obtain rfl : k = l1.length := by omega
              have Hl1 := Lib.hid (show longText l1 = false from any_end (Nat.le_refl _) HNO.out)
              clear HNO
              go_wp2_with fail
              go_loop [6] (fun i => CountI l3.length (fun k => ((l3.take k).any fun x => decide (1000 < x.name.length) || decide (1000 < x.cap.text.length)) = false) i) (fun i => l3.length - (RowKit.intOf i).toNat)
              case atStart => exact ⟨0, rfl, Nat.zero_le _, rfl⟩
              case round =>
                obtain ⟨k, rfl, hk, hno⟩ := hrel
                have HNO := Lib.hid hno
                clear hno
                by_cases hlt : k < l3.length
                · obtain ⟨x, hx⟩ : ∃ x, l3[k]? = some x := ⟨_, List.getElem?_eq_getElem hlt⟩
                  obtain ⟨kb, off, rfl, hkb, g0, g1, g2, g3, g4⟩ := G3.out.cells hx
                  have i1 : (0 : Int) ≤ (k : Int) := by omega
                  have i2 : (k : Int) < (l3.length : Int) := by omega
                  have HC := Lib.hid hx
                  clear hx hkb
                  by_cases hq : 1000 < x.cap.text.length
                  · have HQ := Lib.hid hq
                    have hq' : (1000 : Int) < (x.cap.text.length : Int) := by omega
                    clear hq
                    go_wp2_with fail
                    go_ret
                    exact ⟨ret_bool (by symm; rw [HV2.out, show longExt l3 = true from any_at HC.out (by simp [HQ.out])]; rfl), HB.out⟩
                  · have hq' : ¬ (1000 : Int) < (x.cap.text.length : Int) := by omega
                    have HQ := Lib.hid hq
                    clear hq
                    by_cases hq2 : 1000 < x.name.length
                    · have HQ2 := Lib.hid hq2
                      have hq2' : (1000 : Int) < (x.name.length : Int) := by omega
                      clear hq2
                      go_wp2_with fail
                      go_ret
                      exact ⟨ret_bool (by symm; rw [HV2.out, show longExt l3 = true from any_at HC.out (by simp [HQ2.out])]; rfl), HB.out⟩
                    · have hq2' : ¬ (1000 : Int) < (x.name.length : Int) := by omega
                      have HQ2 := Lib.hid hq2
                      clear hq2
                      go_wp2_with fail
                      exact ⟨⟨k + 1, by go_num, hlt, any_next HC.out HNO.out (by simp [HQ.out, HQ2.out])⟩, by simp [RowKit.intOf]; omega⟩
                · obtain rfl : k = l3.length := by omega
                  have HQ : Hid (res = false) := Lib.hid (by rw [HV2.out, show longExt l3 = false from any_end (Nat.le_refl _) HNO.out, Hl0.out, Hl1.out, Hl2.out]; rfl)
                  clear HNO
                  go_wp2_with fail
                  go_ret
                  exact ⟨ret_bool HQ.out.symm, HB.out⟩
end
end Go.Proofs.YtcfgppjhgobboaaGreatDoor
