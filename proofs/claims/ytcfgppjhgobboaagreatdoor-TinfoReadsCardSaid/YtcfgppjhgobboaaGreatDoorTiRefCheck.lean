/-
  What Check of the document returns: what Check of package tinfo returns.
-/
import Derived.Test.YtcfgppjhgobboaaGreatDoorTiRefEx
import Derived.Test.YtcfgppjhgobboaaGreatDoorTiClone2
namespace Go.Proofs.YtcfgppjhgobboaaGreatDoor
open Go.RowKit Go.Shelf Go.Lib
attribute [local go_sem] Oper.semAt_some

theorem below_of_drew {B : Nat} {w w' : World} (h : Below B w.drew w') : Below B w w' := ⟨h.os, h.tape, h.output, h.size, h.block⟩
theorem ExtsV.prefix {w : World} {A : Option Addr} {n cap : Nat} {l l' : List ExtD} (h : ExtsV w (.slice A n cap) l) (hp : l' <+: l) : ExtsV w (.slice A l'.length cap) l' := by
  obtain ⟨A', c', e, h1, h2, h3⟩ := h
  injection e with e1 e2 e3
  subst e1 e3
  obtain ⟨r, rfl⟩ := hp
  rw [List.length_append] at h1 h2 h3
  refine ⟨A, cap, rfl, by omega, by omega, ⟨extVals_length l', fun e => ?_, fun hm => ?_⟩⟩
  · have := h3.nil e; omega
  · obtain ⟨k, off, e, hk, hc⟩ := h3.cells (by omega)
    refine ⟨k, off, e, hk, fun j u hu => hc j u ?_⟩
    rw [extVals_append, List.getElem?_append_left (List.getElem?_eq_some_iff.1 hu).1]
    exact hu
/-- between two extended capabilities -/
def RefExtR (w1 : World) (bx : Nat) (nm : List UInt8) (wd : Bool) (a b c d : Value) (l : List ExtD) (i : Value) (W : World) : Prop :=
  ∃ (k : Nat) (m : Int), i = .int .i64 k ∧ k ≤ l.length ∧ 0 ≤ m ∧ (k = 0 → m = 0) ∧ (∀ j y, k = j + 1 → l[j]? = some y → m = y.kind) ∧
    extsFitP (topP wd) [] 0 l = extsFitP (topP wd) ((l.take k).map (·.name)) m (l.drop k) ∧ InBox w1 W bx nm wd a b c d

set_option maxRecDepth 100000 in
set_option maxHeartbeats 4000000 in
theorem refCheck_any (w : World) (t : TermD) (v : Nat → Value) (ve : Value) (h : TermV w v ve t) (hT : Tabs w) : Calls Tryz.prog 44 #[termVal t v ve] w fun e w' => e = .returned (.int .i64 (checkP t)) ∧ Below w.heap.size w w' := by
  have hb : Below w.heap.size w (w.alloc (termObj t.names t.wide (v 0) (v 1) (v 2) ve)) := (Below.refl _ w).alloc (Nat.le_refl _) _
  have CT := Lib.hid (fun W (hW : Below w.heap.size w W) => long_any W t v ve (h.below hW) (hT.below hW))
  have HI := Lib.hid (InBox.made w hT t.names t.wide (v 0) (v 1) (v 2) ve)
  obtain ⟨A0, n0, A1, n1, A2, n2, A3, n3, e0, e1, e2, e3, ⟨s0, s1, s2, s3⟩, g0, g1, g2, g3⟩ := h.forms
  rw [termVal_open e0 e1 e2 e3] at CT ⊢
  rw [e0, e1, e2, e3] at HI hb
  clear h e0 e1 e2 e3
  obtain ⟨nm, wd, l0, l1, l2, l3⟩ := t
  simp only at s0 s1 s2 s3 g0 g1 g2 g3 HI CT hb ⊢
  have HV : Hid (checkP ⟨nm, wd, l0, l1, l2, l3⟩ = if tooLongP ⟨nm, wd, l0, l1, l2, l3⟩ then 3 else if isNameP nm && (l0.all fun c => fitsP c 0 (topP wd)) && (l1.all fun c => fitsP c 1 (topP wd)) && (l2.all fun c => fitsP c 2 (topP wd)) && extsFitP (topP wd) [] 0 l3 then 0 else 1) := Lib.hid rfl
  generalize checkP ⟨nm, wd, l0, l1, l2, l3⟩ = res at *
  generalize tooLongP ⟨nm, wd, l0, l1, l2, l3⟩ = tl at *
  obtain ⟨c0, c1, c2, c3, c4, c5⟩ := HI.out.cells
  have H0 := Lib.hid hb
  cases tl with
  | true =>
    have HR : Hid (res = 3) := Lib.hid (by rw [HV.out]; rfl)
    clear HV g0 g1 g2 g3 hT hb
    go_enter Tryz.func44, Tryz.ntmps44
    go_wp2_with (go_at_call 94; with_reducible refine (CT.out _ H0.out).mono ?_; rintro e w2 ⟨rfl, hb2⟩; have HB2 := Lib.hid (H0.out.trans (hb2.mono H0.out.size)); clear hb2)
    go_ret
    exact ⟨by rw [HR.out]; rfl, HB2.out⟩
  | false =>
    have HV2 : Hid (res = if isNameP nm && (l0.all fun c => fitsP c 0 (topP wd)) && (l1.all fun c => fitsP c 1 (topP wd)) && (l2.all fun c => fitsP c 2 (topP wd)) && extsFitP (topP wd) [] 0 l3 then 0 else 1) := Lib.hid (by rw [HV.out]; rfl)
    clear HV
    have CI := Lib.hid (fun W => indexByte_any nm W)
    have CC0 := Lib.hid (fun W (hW : Below w.heap.size w W) => caps_any W _ l0 0 wd (g0.below hW))
    have CC1 := Lib.hid (fun W (hW : Below w.heap.size w W) => caps_any W _ l1 1 wd (g1.below hW))
    have CC2 := Lib.hid (fun W (hW : Below w.heap.size w W) => caps_any W _ l2 2 wd (g2.below hW))
    have hnm : isNameP nm = (!nm.isEmpty && !decide (0 ≤ indexByte nm 0)) := rfl
    rw [hnm] at HV2
    have HG := Lib.hid g3
    clear hnm g0 g1 g2 g3 hT hb
    generalize indexByte nm 0 = ib at *
    generalize (l0.all fun c => fitsP c 0 (topP wd)) = p0 at *
    generalize (l1.all fun c => fitsP c 1 (topP wd)) = p1 at *
    generalize (l2.all fun c => fitsP c 2 (topP wd)) = p2 at *
    obtain ⟨em, hem⟩ : ∃ em, nm.isEmpty = em := ⟨_, rfl⟩
    obtain ⟨di, hdi⟩ : ∃ di, decide (0 ≤ ib) = di := ⟨_, rfl⟩
    rw [hem, hdi] at HV2
    cases em with
    | true =>
      have HR : Hid (res = 1) := Lib.hid (by rw [HV2.out]; simp)
      clear HV2
      go_enter Tryz.func44, Tryz.ntmps44
      go_wp2_with (first
        | (go_at_call 94; with_reducible refine (CT.out _ H0.out).mono ?_; rintro e w2 ⟨rfl, hb2⟩; replace HI := Lib.hid (HI.out.next hb2); clear c0 c1 c2 c3 c4 c5; obtain ⟨c0, c1, c2, c3, c4, c5⟩ := HI.out.cells; clear hb2)
        | (go_at_call 78; refine (CI.out _).mono ?_; rintro e w' ⟨rfl, rfl⟩)
        | (go_at_call 95; with_reducible refine (CC0.out _ (H0.out.trans (HI.out.below.mono H0.out.size))).mono ?_; rintro e w2 ⟨rfl, hb2⟩; replace HI := Lib.hid (HI.out.next hb2); clear c0 c1 c2 c3 c4 c5; obtain ⟨c0, c1, c2, c3, c4, c5⟩ := HI.out.cells; clear hb2)
        | (go_at_call 95; with_reducible refine (CC1.out _ (H0.out.trans (HI.out.below.mono H0.out.size))).mono ?_; rintro e w2 ⟨rfl, hb2⟩; replace HI := Lib.hid (HI.out.next hb2); clear c0 c1 c2 c3 c4 c5; obtain ⟨c0, c1, c2, c3, c4, c5⟩ := HI.out.cells; clear hb2)
        | (go_at_call 95; with_reducible refine (CC2.out _ (H0.out.trans (HI.out.below.mono H0.out.size))).mono ?_; rintro e w2 ⟨rfl, hb2⟩; replace HI := Lib.hid (HI.out.next hb2); clear c0 c1 c2 c3 c4 c5; obtain ⟨c0, c1, c2, c3, c4, c5⟩ := HI.out.cells; clear hb2))
      go_ret
      exact ⟨by rw [HR.out]; rfl, H0.out.trans (HI.out.below.mono H0.out.size)⟩
    | false =>
      cases di with
      | true =>
        have HR : Hid (res = 1) := Lib.hid (by rw [HV2.out]; simp)
        clear HV2
        go_enter Tryz.func44, Tryz.ntmps44
        go_wp2_with (first
          | (go_at_call 94; with_reducible refine (CT.out _ H0.out).mono ?_; rintro e w2 ⟨rfl, hb2⟩; replace HI := Lib.hid (HI.out.next hb2); clear c0 c1 c2 c3 c4 c5; obtain ⟨c0, c1, c2, c3, c4, c5⟩ := HI.out.cells; clear hb2)
          | (go_at_call 78; refine (CI.out _).mono ?_; rintro e w' ⟨rfl, rfl⟩)
          | (go_at_call 95; with_reducible refine (CC0.out _ (H0.out.trans (HI.out.below.mono H0.out.size))).mono ?_; rintro e w2 ⟨rfl, hb2⟩; replace HI := Lib.hid (HI.out.next hb2); clear c0 c1 c2 c3 c4 c5; obtain ⟨c0, c1, c2, c3, c4, c5⟩ := HI.out.cells; clear hb2)
          | (go_at_call 95; with_reducible refine (CC1.out _ (H0.out.trans (HI.out.below.mono H0.out.size))).mono ?_; rintro e w2 ⟨rfl, hb2⟩; replace HI := Lib.hid (HI.out.next hb2); clear c0 c1 c2 c3 c4 c5; obtain ⟨c0, c1, c2, c3, c4, c5⟩ := HI.out.cells; clear hb2)
          | (go_at_call 95; with_reducible refine (CC2.out _ (H0.out.trans (HI.out.below.mono H0.out.size))).mono ?_; rintro e w2 ⟨rfl, hb2⟩; replace HI := Lib.hid (HI.out.next hb2); clear c0 c1 c2 c3 c4 c5; obtain ⟨c0, c1, c2, c3, c4, c5⟩ := HI.out.cells; clear hb2))
        go_ret
        exact ⟨by rw [HR.out]; rfl, H0.out.trans (HI.out.below.mono H0.out.size)⟩
      | false =>
        cases p0 with
        | false =>
          have HR : Hid (res = 1) := Lib.hid (by rw [HV2.out]; simp)
          clear HV2
          go_enter Tryz.func44, Tryz.ntmps44
          go_wp2_with (first
            | (go_at_call 94; with_reducible refine (CT.out _ H0.out).mono ?_; rintro e w2 ⟨rfl, hb2⟩; replace HI := Lib.hid (HI.out.next hb2); clear c0 c1 c2 c3 c4 c5; obtain ⟨c0, c1, c2, c3, c4, c5⟩ := HI.out.cells; clear hb2)
            | (go_at_call 78; refine (CI.out _).mono ?_; rintro e w' ⟨rfl, rfl⟩)
            | (go_at_call 95; with_reducible refine (CC0.out _ (H0.out.trans (HI.out.below.mono H0.out.size))).mono ?_; rintro e w2 ⟨rfl, hb2⟩; replace HI := Lib.hid (HI.out.next hb2); clear c0 c1 c2 c3 c4 c5; obtain ⟨c0, c1, c2, c3, c4, c5⟩ := HI.out.cells; clear hb2)
            | (go_at_call 95; with_reducible refine (CC1.out _ (H0.out.trans (HI.out.below.mono H0.out.size))).mono ?_; rintro e w2 ⟨rfl, hb2⟩; replace HI := Lib.hid (HI.out.next hb2); clear c0 c1 c2 c3 c4 c5; obtain ⟨c0, c1, c2, c3, c4, c5⟩ := HI.out.cells; clear hb2)
            | (go_at_call 95; with_reducible refine (CC2.out _ (H0.out.trans (HI.out.below.mono H0.out.size))).mono ?_; rintro e w2 ⟨rfl, hb2⟩; replace HI := Lib.hid (HI.out.next hb2); clear c0 c1 c2 c3 c4 c5; obtain ⟨c0, c1, c2, c3, c4, c5⟩ := HI.out.cells; clear hb2))
          go_ret
          exact ⟨by rw [HR.out]; rfl, H0.out.trans (HI.out.below.mono H0.out.size)⟩
        | true =>
          cases p1 with
          | false =>
            have HR : Hid (res = 1) := Lib.hid (by rw [HV2.out]; simp)
            clear HV2
            go_enter Tryz.func44, Tryz.ntmps44
            go_wp2_with (first
              | (go_at_call 94; with_reducible refine (CT.out _ H0.out).mono ?_; rintro e w2 ⟨rfl, hb2⟩; replace HI := Lib.hid (HI.out.next hb2); clear c0 c1 c2 c3 c4 c5; obtain ⟨c0, c1, c2, c3, c4, c5⟩ := HI.out.cells; clear hb2)
              | (go_at_call 78; refine (CI.out _).mono ?_; rintro e w' ⟨rfl, rfl⟩)
              | (go_at_call 95; with_reducible refine (CC0.out _ (H0.out.trans (HI.out.below.mono H0.out.size))).mono ?_; rintro e w2 ⟨rfl, hb2⟩; replace HI := Lib.hid (HI.out.next hb2); clear c0 c1 c2 c3 c4 c5; obtain ⟨c0, c1, c2, c3, c4, c5⟩ := HI.out.cells; clear hb2)
              | (go_at_call 95; with_reducible refine (CC1.out _ (H0.out.trans (HI.out.below.mono H0.out.size))).mono ?_; rintro e w2 ⟨rfl, hb2⟩; replace HI := Lib.hid (HI.out.next hb2); clear c0 c1 c2 c3 c4 c5; obtain ⟨c0, c1, c2, c3, c4, c5⟩ := HI.out.cells; clear hb2)
              | (go_at_call 95; with_reducible refine (CC2.out _ (H0.out.trans (HI.out.below.mono H0.out.size))).mono ?_; rintro e w2 ⟨rfl, hb2⟩; replace HI := Lib.hid (HI.out.next hb2); clear c0 c1 c2 c3 c4 c5; obtain ⟨c0, c1, c2, c3, c4, c5⟩ := HI.out.cells; clear hb2))
            go_ret
            exact ⟨by rw [HR.out]; rfl, H0.out.trans (HI.out.below.mono H0.out.size)⟩
          | true =>
            cases p2 with
            | false =>
              have HR : Hid (res = 1) := Lib.hid (by rw [HV2.out]; simp)
              clear HV2
              go_enter Tryz.func44, Tryz.ntmps44
              go_wp2_with (first
                | (go_at_call 94; with_reducible refine (CT.out _ H0.out).mono ?_; rintro e w2 ⟨rfl, hb2⟩; replace HI := Lib.hid (HI.out.next hb2); clear c0 c1 c2 c3 c4 c5; obtain ⟨c0, c1, c2, c3, c4, c5⟩ := HI.out.cells; clear hb2)
                | (go_at_call 78; refine (CI.out _).mono ?_; rintro e w' ⟨rfl, rfl⟩)
                | (go_at_call 95; with_reducible refine (CC0.out _ (H0.out.trans (HI.out.below.mono H0.out.size))).mono ?_; rintro e w2 ⟨rfl, hb2⟩; replace HI := Lib.hid (HI.out.next hb2); clear c0 c1 c2 c3 c4 c5; obtain ⟨c0, c1, c2, c3, c4, c5⟩ := HI.out.cells; clear hb2)
                | (go_at_call 95; with_reducible refine (CC1.out _ (H0.out.trans (HI.out.below.mono H0.out.size))).mono ?_; rintro e w2 ⟨rfl, hb2⟩; replace HI := Lib.hid (HI.out.next hb2); clear c0 c1 c2 c3 c4 c5; obtain ⟨c0, c1, c2, c3, c4, c5⟩ := HI.out.cells; clear hb2)
                | (go_at_call 95; with_reducible refine (CC2.out _ (H0.out.trans (HI.out.below.mono H0.out.size))).mono ?_; rintro e w2 ⟨rfl, hb2⟩; replace HI := Lib.hid (HI.out.next hb2); clear c0 c1 c2 c3 c4 c5; obtain ⟨c0, c1, c2, c3, c4, c5⟩ := HI.out.cells; clear hb2))
              go_ret
              exact ⟨by rw [HR.out]; rfl, H0.out.trans (HI.out.below.mono H0.out.size)⟩
            | true =>
              have HV3 : Hid (res = if extsFitP (topP wd) [] 0 l3 then 0 else 1) := Lib.hid (by rw [HV2.out]; rfl)
              clear HV2
              obtain ⟨n, hln⟩ : ∃ n, l3.length = n := ⟨_, rfl⟩
              have HL := Lib.hid hln
              rw [hln] at HG HI s3 CT H0 ⊢
              clear c0 c1 c2 c3 c4 c5
              obtain ⟨c0, c1, c2, c3, c4, c5⟩ := HI.out.cells
              clear hln
              have hmade := Lib.hid (World.alloc_heap_new w (termObj nm wd (.slice A0 l0.length n0) (.slice A1 l1.length n1) (.slice A2 l2.length n2) (.slice A3 n n3)))
              go_enter Tryz.func44, Tryz.ntmps44
              go_wp2_with (first
                | (go_at_call 94; with_reducible refine (CT.out _ H0.out).mono ?_; rintro e w2 ⟨rfl, hb2⟩; replace HI := Lib.hid (HI.out.next hb2); clear c0 c1 c2 c3 c4 c5; obtain ⟨c0, c1, c2, c3, c4, c5⟩ := HI.out.cells; clear hb2)
                | (go_at_call 78; refine (CI.out _).mono ?_; rintro e w' ⟨rfl, rfl⟩)
                | (go_at_call 95; with_reducible refine (CC0.out _ (H0.out.trans (HI.out.below.mono H0.out.size))).mono ?_; rintro e w2 ⟨rfl, hb2⟩; replace HI := Lib.hid (HI.out.next hb2); clear c0 c1 c2 c3 c4 c5; obtain ⟨c0, c1, c2, c3, c4, c5⟩ := HI.out.cells; clear hb2)
                | (go_at_call 95; with_reducible refine (CC1.out _ (H0.out.trans (HI.out.below.mono H0.out.size))).mono ?_; rintro e w2 ⟨rfl, hb2⟩; replace HI := Lib.hid (HI.out.next hb2); clear c0 c1 c2 c3 c4 c5; obtain ⟨c0, c1, c2, c3, c4, c5⟩ := HI.out.cells; clear hb2)
                | (go_at_call 95; with_reducible refine (CC2.out _ (H0.out.trans (HI.out.below.mono H0.out.size))).mono ?_; rintro e w2 ⟨rfl, hb2⟩; replace HI := Lib.hid (HI.out.next hb2); clear c0 c1 c2 c3 c4 c5; obtain ⟨c0, c1, c2, c3, c4, c5⟩ := HI.out.cells; clear hb2))
              generalize w.alloc (termObj nm wd (.slice A0 l0.length n0) (.slice A1 l1.length n1) (.slice A2 l2.length n2) (.slice A3 n n3)) = w1 at *
              go_loopw [3] (fun i wr => RefExtR w1 w.heap.size nm wd (.slice A0 l0.length n0) (.slice A1 l1.length n1) (.slice A2 l2.length n2) (.slice A3 n n3) l3 i wr) (fun i _ => n - (RowKit.intOf i).toNat)
              case atStart => exact ⟨0, 0, rfl, Nat.zero_le _, Int.le_refl _, fun _ => rfl, fun j y hj => by omega, rfl, HI.out⟩
              case round =>
                obtain ⟨k, m, rfl, hk, hm0, hkm, hmk, he, hI⟩ := hrel
                rw [HL.out] at hk
                replace HI := Lib.hid hI
                clear c0 c1 c2 c3 c4 c5
                obtain ⟨c0, c1, c2, c3, c4, c5⟩ := HI.out.cells
                have HB := Lib.hid (H0.out.trans (hI.below.mono H0.out.size))
                clear hI
                by_cases hlt : k < n
                · obtain ⟨x, hx⟩ : ∃ x, l3[k]? = some x := ⟨_, List.getElem?_eq_getElem (by rw [HL.out]; exact hlt)⟩
                  have HE := Lib.hid (extsFit_step hx he)
                  have HX := Lib.hid hx
                  have hpre := ((HG.out.below HB.out).prefix (l' := l3.take k) (List.take_prefix _ _))
                  rw [show (l3.take k).length = k by rw [List.length_take, HL.out]; omega] at hpre
                  obtain ⟨kb, off, rfl, hkb, g0, g1, g2, g3, g4⟩ := HG.out.cells hx
                  rw [← HB.out.cell (p := ⟨kb, off + k * 5, none⟩) hkb] at g0
                  rw [← HB.out.cell (p := ⟨kb, off + k * 5 + 1, none⟩) hkb] at g1
                  rw [← HB.out.cell (p := ⟨kb, off + k * 5 + 2, none⟩) hkb] at g2
                  rw [← HB.out.cell (p := ⟨kb, off + k * 5 + 3, none⟩) hkb] at g3
                  rw [← HB.out.cell (p := ⟨kb, off + k * 5 + 4, none⟩) hkb] at g4
                  have i1 : (0 : Int) ≤ (k : Int) := by omega
                  have i2 : (k : Int) < (n : Int) := by omega
                  have hxb := World.alloc_heap_new wr (.cells #[.int .i64 x.kind, str x.name, .int .i64 x.cap.st, .int .i64 x.cap.num, str x.cap.text] 48)
                  have HXB := Lib.hid hxb
                  have HGY := HG
                  have HKM := Lib.hid (And.intro hm0 (And.intro hkm hmk))
                  have HPRE := Lib.hid hpre
                  clear hx he hkb hpre hm0 hkm hmk CI CC0 CC1 CC2 CT hem hdi c0 c2 c3 c4 s0 s1 s2 hk hxb
                  go_wp2_with fail
                  change Code.wp Tryz.prog (.region 9 (regionOf Tryz.f44 9) true) _ _ _
                  obtain ⟨pk, hpk⟩ : ∃ pk, pk = (l3[k - 1]?.map (·.kind)).getD 0 := ⟨_, rfl⟩
                  obtain ⟨fit, hfit⟩ : ∃ fit, fit = fitsP x.cap x.kind (topP wd) := ⟨_, rfl⟩
                  obtain ⟨adp, hadp⟩ : ∃ adp, adp = addP ((l3.take k).map (·.name)) x.name := ⟨_, rfl⟩
                  have hbelow : Below w.heap.size w (wr.alloc (.cells #[.int .i64 x.kind, str x.name, .int .i64 x.cap.st, .int .i64 x.cap.num, str x.cap.text] 48)) := HB.out.alloc HB.out.size _
                  have hI2 := HI.out.next ((Below.refl _ wr).alloc (Nat.le_refl _) (.cells #[.int .i64 x.kind, str x.name, .int .i64 x.cap.st, .int .i64 x.cap.num, str x.cap.text] 48))
                  have hbw : Below wr.heap.size wr (wr.alloc (.cells #[.int .i64 x.kind, str x.name, .int .i64 x.cap.st, .int .i64 x.cap.num, str x.cap.text] 48)) := (Below.refl _ wr).alloc (Nat.le_refl _) _
                  have hxb := HXB.out
                  have hbs : w.heap.size < (wr.alloc (.cells #[.int .i64 x.kind, str x.name, .int .i64 x.cap.st, .int .i64 x.cap.num, str x.cap.text] 48)).heap.size := Nat.lt_of_lt_of_le hI2.lt hI2.below.size
                  have hkbX : kb < (wr.alloc (.cells #[.int .i64 x.kind, str x.name, .int .i64 x.cap.st, .int .i64 x.cap.num, str x.cap.text] 48)).heap.size := by
                    obtain ⟨kb', off', e', hkb', _⟩ := HGY.out.cells HX.out
                    injection e' with e'
                    injection e' with e1 e2
                    subst e1 e2
                    exact Nat.lt_of_lt_of_le hkb' hbelow.size
                  have hcapn : n ≤ n3 := by obtain ⟨A', c', e', h1, _⟩ := HGY.out; injection e' with _ _ e3; rw [HL.out] at h1; omega
                  have hjk : decide (0 < k) = true → k = (k - 1) + 1 ∧ (wr.alloc (.cells #[.int .i64 x.kind, str x.name, .int .i64 x.cap.st, .int .i64 x.cap.num, str x.cap.text] 48)).cell? ⟨kb, off + (k - 1) * 5, none⟩ = some (.int .i64 pk) := fun hk => by
                    have hk' : 0 < k := by simpa using hk
                    obtain ⟨y, hy⟩ : ∃ y, l3[k - 1]? = some y := ⟨_, List.getElem?_eq_getElem (by rw [HL.out]; omega)⟩
                    obtain ⟨kb', off', e', hkb', q0, _⟩ := HGY.out.cells hy
                    injection e' with e'
                    injection e' with e1 e2
                    subst e1 e2
                    refine ⟨by omega, ?_⟩
                    rw [hbelow.cell (p := ⟨kb, off + (k - 1) * 5, none⟩) hkb', q0, hpk, hy]
                    rfl
                  have CF := fun W => cap1_any W x.cap x.kind wd
                  rw [← hfit] at CF
                  have CN := fun W (hW : Below (wr.alloc (.cells #[.int .i64 x.kind, str x.name, .int .i64 x.cap.st, .int .i64 x.cap.num, str x.cap.text] 48)).heap.size (wr.alloc (.cells #[.int .i64 x.kind, str x.name, .int .i64 x.cap.st, .int .i64 x.cap.num, str x.cap.text] 48)) W) => named_any W _ (l3.take k) (HPRE.out.below (hbw.trans (hW.mono hbw.size))) (hI2.tabs.below hW) x.name
                  rw [← hadp] at CN
                  have hextok : extOk (topP wd) ((l3.take k).map (·.name)) m x = !((((decide (x.kind < 0) || decide (2 < x.kind)) || (decide (0 < k) && decide (x.kind < pk))) || !fit) || !adp) := by
                    have hm := HKM.out
                    unfold extOk
                    rw [← hfit, ← hadp]
                    rcases Nat.eq_zero_or_pos k with h0 | h0
                    · have := hm.2.1 h0
                      subst this
                      simp [h0]
                    · obtain ⟨y, hy⟩ : ∃ y, l3[k - 1]? = some y := ⟨_, List.getElem?_eq_getElem (by rw [HL.out]; omega)⟩
                      have hmy := hm.2.2 (k - 1) y (by omega) hy
                      have hpy : pk = m := by rw [hpk, hy, hmy]; rfl
                      have h00 : 0 ≤ m := hm.1
                      rw [hpy]
                      have hd : (decide (x.kind < 0) || decide (x.kind < m)) = decide (x.kind < m) := by
                        by_cases h1 : x.kind < 0
                        · have : x.kind < m := by omega
                          simp [h1, this]
                        · simp [h1]
                      have hd2 : decide (0 < k) = true := by simpa using h0
                      rw [hd2, Bool.true_and, ← hd]
                      cases decide (x.kind < 0) <;> cases decide (x.kind < m) <;> cases decide (2 < x.kind) <;> cases fit <;> cases adp <;> rfl
                  refine wp_region_facts (by kernel_rfl) (ValsJ (wr.alloc (.cells #[.int .i64 x.kind, str x.name, .int .i64 x.cap.st, .int .i64 x.cap.num, str x.cap.text] 48)) (refVals wr.heap.size w.heap.size kb off k (k - 1) n n3 x wd pk (decide (x.kind < 0)) (decide (2 < x.kind)) (decide (0 < k)) (decide (x.kind < pk)) fit adp (decide (x.kind < 0) || decide (2 < x.kind)) ((decide (x.kind < 0) || decide (2 < x.kind)) || (decide (0 < k) && decide (x.kind < pk))) (((decide (x.kind < 0) || decide (2 < x.kind)) || (decide (0 < k) && decide (x.kind < pk))) || !fit)))
                    refc_ok refc_deps ⟨below_drewN (Below.refl _ _) 1, fun _ h => by cases h⟩
                    (refc_step _ _ _ _ _ _ _ _ _ _ _ _ _ _ _ _ _ _ _ _ _ _ _ rfl rfl rfl (by simp) hbs hkbX hlt s3 hcapn (cell_of_row _ _ 0 _ _ _ hxb) (cell_of_row _ _ 1 _ _ _ hxb) (cell_of_row _ _ 2 _ _ _ hxb) (cell_of_row _ _ 3 _ _ _ hxb) (cell_of_row _ _ 4 _ _ _ hxb)
                      hI2.cells.2.1 hI2.cells.2.2.2.2.2 hjk rfl rfl rfl rfl rfl rfl rfl CF CN) (fun f W a hJ hA => ?_)
                  have hlast : f 43 = .bool (!extOk (topP wd) ((l3.take k).map (·.name)) m x) := by
                    rw [hJ.vals 43 (by simp [refc_size]), hextok, Bool.not_not]
                    rfl
                  have hlit : a = ⟨#[Value.agg #[str nm, Value.bool wd, Value.slice A0 l0.length n0, Value.slice A1 l1.length n1, Value.slice A2 l2.length n2, Value.slice (some ⟨kb, off, none⟩) n n3], Value.pointer (some ⟨w.heap.size, 0, none⟩), u2, Value.int IntKind.i64 ↑k, Value.pointer (some ⟨wr.heap.size, 0, none⟩), Value.agg #[str nm, Value.bool wd, Value.slice A0 l0.length n0, Value.slice A1 l1.length n1, Value.slice A2 l2.length n2, Value.slice (some ⟨kb, off, none⟩) n n3], Value.bool false, Value.pointer (some ⟨w.heap.size, 0, none⟩), str nm, Value.bool false, Value.bool false, Value.pointer (some ⟨w.heap.size, 0, none⟩), str nm, Value.int IntKind.i64 ib, Value.bool false, Value.bool false, Value.bool false, Value.pointer (some ⟨w.heap.size, 2, none⟩), Value.slice A0 l0.length n0, Value.pointer (some ⟨w.heap.size, 1, none⟩), Value.bool wd, Value.bool true, Value.bool false, Value.bool false, Value.bool false, Value.pointer (some ⟨w.heap.size, 3, none⟩), Value.slice A1 l1.length n1, Value.pointer (some ⟨w.heap.size, 1, none⟩), Value.bool wd, Value.bool true, Value.bool false, Value.bool false, Value.bool false, Value.pointer (some ⟨w.heap.size, 4, none⟩), Value.slice A2 l2.length n2, Value.pointer (some ⟨w.heap.size, 1, none⟩), Value.bool wd, Value.bool true, Value.bool false, Value.bool false, Value.int IntKind.i64 ↑k, Value.pointer (some ⟨w.heap.size, 5, none⟩), Value.slice (some ⟨kb, off, none⟩) n n3, Value.int IntKind.i64 ↑n, Value.bool true, u45, u46, Value.pointer (some ⟨w.heap.size, 5, none⟩), Value.slice (some ⟨kb, off, none⟩) n n3, Value.int IntKind.i64 ↑k, Value.pointer (some ⟨kb, off + k * 5, none⟩), Value.agg #[Value.int IntKind.i64 x.kind, str x.name, Value.int IntKind.i64 x.cap.st, Value.int IntKind.i64 x.cap.num, str x.cap.text], f 0, f 1, f 2, f 3, f 4, f 5, f 6, f 7, f 8, f 9, f 10, f 11, f 12, f 13, f 14, f 15, f 16, f 17, f 18, f 19, f 20, f 21, f 22, f 23, f 24, f 25, f 26, f 27, f 28, f 29, f 30, f 31, f 32, f 33, f 34, f 35, f 36, f 37, f 38, f 39, f 40, f 41, f 42, f 43], []⟩ := by
                    rw [act_lit hA]
                    kernel_rfl
                  have I3 := Lib.hid (hI2.next hJ.below)
                  have HJB := Lib.hid (hbelow.trans (hJ.below.mono hbelow.size))
                  subst hlit
                  clear hA hJ hextok CF CN hjk hcapn hkbX hbs hbw hxb hI2 hbelow hpk hfit hadp
                  cases hok : extOk (topP wd) ((l3.take k).map (·.name)) m x with
                  | false =>
                    rw [hok, Bool.not_false] at hlast
                    have HR : Hid (res = 1) := Lib.hid (by rw [HV3.out, HE.out, hok]; simp)
                    clear hok
                    rw [hlast]
                    go_wp2
                    go_ret
                    exact ⟨by rw [HR.out]; rfl, HJB.out⟩
                  | true =>
                    rw [hok, Bool.not_true] at hlast
                    have HOK := Lib.hid hok
                    clear hok
                    rw [hlast]
                    go_wp2
                    refine ⟨⟨k + 1, x.kind, by go_num, by rw [HL.out]; exact hlt, ?_, fun h => by omega, fun j' y hj hy => ?_, by rw [HE.out, HOK.out, Bool.true_and], I3.out⟩, by simp [RowKit.intOf]; omega⟩
                    · have h1 := HOK.out
                      simp [extOk] at h1
                      have := HKM.out.1
                      omega
                    · obtain rfl : k = j' := by omega
                      rw [HX.out] at hy
                      injection hy with hy
                      rw [hy]
                · obtain rfl : k = n := by omega
                  have HR : Hid (res = 0) := Lib.hid (by rw [HV3.out, he, List.drop_of_length_le (Nat.le_of_eq HL.out)]; rfl)
                  clear he hkm hmk
                  go_wp2_with fail
                  go_ret
                  exact ⟨by rw [HR.out]; rfl, HB.out⟩

end Go.Proofs.YtcfgppjhgobboaaGreatDoor
