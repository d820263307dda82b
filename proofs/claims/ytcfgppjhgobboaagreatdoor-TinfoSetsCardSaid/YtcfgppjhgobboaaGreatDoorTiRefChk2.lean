/-
  What caps and named of the document return.
-/
import Derived.Test.YtcfgppjhgobboaaGreatDoorTiRefChk
namespace Go.Proofs.YtcfgppjhgobboaaGreatDoor
open Go.RowKit Go.Shelf Go.Lib
attribute [local go_sem] Oper.semAt_some

set_option maxRecDepth 100000 in
theorem caps_any (w : World) (v : Value) (l : List CapD) (kind : Int) (wide : Bool) (h : CapsV w v l) : Calls Tryz.prog 95 #[v, .int .i64 kind, .bool wide] w fun e w' => e = .returned (.bool (l.all fun c => fitsP c kind (topP wide))) ∧ Below w.heap.size w w' := by
  obtain ⟨A, cap, rfl, hsm⟩ := h.form
  have H := Lib.hid h
  clear h
  obtain ⟨n, hn⟩ : ∃ n, l.length = n := ⟨_, rfl⟩
  have HN := Lib.hid hn
  rw [hn] at H hsm ⊢
  clear hn
  go_enter Tryz.func95, Tryz.ntmps95
  go_wp2_with fail
  go_loopw [7] (fun i wr => LoopB w (fun k => k ≤ n ∧ ((l.take k).all fun c => fitsP c kind (topP wide)) = true) i wr) (fun i _ => n - (RowKit.intOf i).toNat)
  case atStart => exact ⟨0, rfl, ⟨Nat.zero_le _, rfl⟩, Below.refl _ _⟩
  case round =>
    obtain ⟨k, rfl, ⟨hk, hno⟩, hb⟩ := hrel
    have HNO := Lib.hid hno
    have HB := Lib.hid hb
    clear hno hb
    by_cases hlt : k < n
    · obtain ⟨c, hc⟩ : ∃ c, l[k]? = some c := ⟨_, List.getElem?_eq_getElem (by rw [HN.out]; exact hlt)⟩
      obtain ⟨kb, off, rfl, hkb, g0, g1, g2⟩ := H.out.cells hc
      rw [← HB.out.cell (p := ⟨kb, off + k * 3, none⟩) hkb] at g0
      rw [← HB.out.cell (p := ⟨kb, off + k * 3 + 1, none⟩) hkb] at g1
      rw [← HB.out.cell (p := ⟨kb, off + k * 3 + 2, none⟩) hkb] at g2
      have i1 : (0 : Int) ≤ (k : Int) := by omega
      have i2 : (k : Int) < (n : Int) := by omega
      have HC := Lib.hid hc
      have CF := Lib.hid (fun W => cap1_any W c kind wide)
      clear hc hkb
      cases hq : fitsP c kind (topP wide) with
      | false =>
        have HQ := Lib.hid hq
        rw [hq] at CF
        clear hq
        go_wp2_with (go_at_call 96; refine (CF.out _).mono ?_; rintro e w2 ⟨rfl, hb2⟩; have HB2 := Lib.hid (HB.out.trans (hb2.mono HB.out.size)); clear hb2)
        go_ret
        exact ⟨ret_bool (by symm; exact all_at HC.out HQ.out), HB2.out⟩
      | true =>
        have HQ := Lib.hid hq
        rw [hq] at CF
        clear hq
        go_wp2_with (go_at_call 96; refine (CF.out _).mono ?_; rintro e w2 ⟨rfl, hb2⟩; have HB2 := Lib.hid (HB.out.trans (hb2.mono HB.out.size)); clear hb2)
        exact ⟨⟨k + 1, by go_num, ⟨hlt, all_next HC.out HNO.out HQ.out⟩, HB2.out⟩, by simp [RowKit.intOf]; omega⟩
    · obtain rfl : k = n := by omega
      go_wp2_with fail
      go_ret
      exact ⟨ret_bool (by symm; exact all_end (Nat.le_of_eq HN.out) HNO.out), HB.out⟩

theorem contains_at {l : List ExtD} {name : List UInt8} {k : Nat} {x : ExtD} (hx : l[k]? = some x) (h : (x.name == name) = true) : (l.map (·.name)).contains name = true := by
  rw [List.contains_iff_mem]
  have := List.mem_map_of_mem (f := fun x : ExtD => x.name) (List.mem_of_getElem? hx)
  rwa [show x.name = name by simpa using h] at this
theorem contains_none {l : List ExtD} {name : List UInt8} (hno : (l.any fun x => x.name == name) = false) : (l.map (·.name)).contains name = false := by
  rw [Bool.eq_false_iff]
  intro h
  rw [List.contains_iff_mem] at h
  obtain ⟨x, hx, he⟩ := List.mem_map.1 h
  have := List.any_eq_false.1 hno x hx
  simp [he] at this

set_option maxRecDepth 100000 in
set_option maxHeartbeats 2000000 in
theorem named_any (w : World) (v : Value) (l : List ExtD) (h : ExtsV w v l) (hT : Tabs w) (name : List UInt8) : Calls Tryz.prog 83 #[v, str name] w fun e w' => e = .returned (.bool (addP (l.map (·.name)) name)) ∧ Below w.heap.size w w' := by
  obtain ⟨A, cap, rfl, hsm⟩ := h.form
  have H := Lib.hid h
  have CP := Lib.hid (refPlace_any name w hT)
  have CI := Lib.hid (fun W => indexByte_any name W)
  have HV : Hid (addP (l.map (·.name)) name = (isNameP name && !((l.map (·.name)).contains name) && (placeP name).isNone)) := Lib.hid rfl
  have hpl : placeRes name = .tuple #[.int .i64 ((placeP name).getD (0, 0)).1, .int .i64 ((placeP name).getD (0, 0)).2, .bool (placeP name).isSome] := by
    unfold placeRes
    cases placeP name <;> rfl
  unfold PlacePost at CP
  rw [hpl] at CP
  generalize addP (l.map (·.name)) name = res at *
  generalize (placeP name).getD (0, 0) = pq at *
  clear h hT hpl
  obtain ⟨n, hln⟩ : ∃ n, l.length = n := ⟨_, rfl⟩
  have HL := Lib.hid hln
  rw [hln] at H hsm ⊢
  clear hln
  cases hp : placeP name with
  | some q =>
    rw [hp] at CP HV
    have HR : Hid (res = false) := Lib.hid (by rw [HV.out]; simp)
    simp only [Option.isSome_some] at CP
    clear HV hp
    go_enter Tryz.func83, Tryz.ntmps83
    go_wp2_with (go_at_call 54; refine (CP.out).mono ?_; rintro e w2 ⟨rfl, hb2⟩; have HB2 := Lib.hid hb2; clear hb2)
    go_ret
    exact ⟨ret_bool HR.out.symm, HB2.out⟩
  | none =>
    rw [hp] at CP HV
    simp only [Option.isSome_none] at CP
    have HV2 : Hid (res = (isNameP name && !((l.map (·.name)).contains name))) := Lib.hid (by rw [HV.out]; simp)
    clear HV hp
    by_cases hnm : isNameP name = true
    · have hne : name.isEmpty = false := by cases name with | nil => simp [isNameP] at hnm | cons _ _ => rfl
      have hib : ¬ 0 ≤ indexByte name 0 := by intro h; simp [isNameP, hasEndP, h] at hnm
      have HV3 : Hid (res = !((l.map (·.name)).contains name)) := Lib.hid (by rw [HV2.out, hnm]; simp)
      have hib2 : decide (0 ≤ indexByte name 0) = false := by simpa using hib
      clear hib
      generalize indexByte name 0 = ib at *
      clear HV2 hnm
      go_enter Tryz.func83, Tryz.ntmps83
      go_wp2_with (first
        | (go_at_call 54; refine (CP.out).mono ?_; rintro e w2 ⟨rfl, hb2⟩; have HB2 := Lib.hid hb2; clear hb2)
        | (go_at_call 78; refine (CI.out _).mono ?_; rintro e w' ⟨rfl, rfl⟩))
      go_loopw [8] (fun i wr => LoopB w (fun k => k ≤ n ∧ ((l.take k).any fun x => x.name == name) = false) i wr) (fun i _ => n - (RowKit.intOf i).toNat)
      case atStart => exact ⟨0, rfl, ⟨Nat.zero_le _, rfl⟩, HB2.out⟩
      case round =>
        obtain ⟨k, rfl, ⟨hk, hno⟩, hb⟩ := hrel
        have HNO := Lib.hid hno
        have HB := Lib.hid hb
        clear hno hb
        by_cases hlt : k < n
        · obtain ⟨x, hx⟩ : ∃ x, l[k]? = some x := ⟨_, List.getElem?_eq_getElem (by rw [HL.out]; exact hlt)⟩
          obtain ⟨kb, off, rfl, hkb, g0, g1, g2, g3, g4⟩ := H.out.cells hx
          rw [← HB.out.cell (p := ⟨kb, off + k * 5 + 1, none⟩) hkb] at g1
          have i1 : (0 : Int) ≤ (k : Int) := by omega
          have i2 : (k : Int) < (n : Int) := by omega
          have HX := Lib.hid hx
          clear hx hkb g0 g2 g3 g4
          by_cases hq : x.name = name
          · have HQ := Lib.hid hq
            clear hq
            have hq2 : (x.name == name) = true := by simpa using HQ.out
            go_wp2_with fail
            go_ret
            exact ⟨ret_bool (by rw [HV3.out, contains_at HX.out (by simpa using HQ.out)]; rfl), HB.out⟩
          · have HQ := Lib.hid hq
            have hq2 : (x.name == name) = false := by simpa using hq
            clear hq
            go_wp2_with fail
            exact ⟨⟨k + 1, by go_num, ⟨hlt, any_next HX.out HNO.out (by simpa using HQ.out)⟩, HB.out⟩, by simp [RowKit.intOf]; omega⟩
        · obtain rfl : k = n := by omega
          go_wp2_with fail
          go_ret
          exact ⟨ret_bool (by rw [HV3.out, contains_none (any_end (Nat.le_of_eq HL.out) HNO.out)]; rfl), HB.out⟩
    · have HR : Hid (res = false) := Lib.hid (by rw [HV2.out]; simp [hnm])
      have hor : name = [] ∨ (name ≠ [] ∧ 0 ≤ indexByte name 0) := by
        by_cases h1 : name = []
        · exact .inl h1
        · refine .inr ⟨h1, ?_⟩
          have h2 : name.isEmpty = false := by simpa using h1
          by_cases h3 : 0 ≤ indexByte name 0
          · exact h3
          · exact absurd (by simp [isNameP, hasEndP, h2, h3]) hnm
      clear HV2 hnm
      rcases hor with rfl | ⟨hne, hib⟩
      · go_enter Tryz.func83, Tryz.ntmps83
        go_wp2_with (go_at_call 54; refine (CP.out).mono ?_; rintro e w2 ⟨rfl, hb2⟩; have HB2 := Lib.hid hb2; clear hb2)
        go_ret
        exact ⟨ret_bool HR.out.symm, HB2.out⟩
      · generalize indexByte name 0 = ib at *
        go_enter Tryz.func83, Tryz.ntmps83
        go_wp2_with (first
          | (go_at_call 54; refine (CP.out).mono ?_; rintro e w2 ⟨rfl, hb2⟩; have HB2 := Lib.hid hb2; clear hb2)
          | (go_at_call 78; refine (CI.out _).mono ?_; rintro e w' ⟨rfl, rfl⟩))
        go_ret
        exact ⟨ret_bool HR.out.symm, HB2.out⟩

end Go.Proofs.YtcfgppjhgobboaaGreatDoor
