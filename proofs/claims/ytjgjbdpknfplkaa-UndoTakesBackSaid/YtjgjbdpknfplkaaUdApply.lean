/-
  An edit applied to a line: stands, Apply.
-/
import Derived.Test.YtjgjbdpknfplkaaUdUndo
namespace Go.Proofs.Ytjgjbdpknfplkaa
open Go.RowKit Go.Shelf Go.Lib
attribute [local go_sem] Oper.semAt_some

theorem wr_sub {a b : Nat} (h : b ≤ a) (ha : a ≤ 35184372088832) : wrap64 ((a : Int) - (b : Int)) = ((a - b : Nat) : Int) := by unfold wrap64; omega
theorem wi_sub {a b : Nat} (h : b ≤ a) (ha : a ≤ 35184372088832) : IntKind.i64.wrap ((a : Int) - (b : Int)) = ((a - b : Nat) : Int) := by rw [IntWalk.i64_in _ (by omega)]; omega
theorem wr_add {a b : Nat} (ha : a ≤ 35184372088832) (hb : b ≤ 35184372088832) : wrap64 ((a : Int) + (b : Int)) = ((a + b : Nat) : Int) := by unfold wrap64; omega
theorem wi_add {a b : Nat} (ha : a ≤ 35184372088832) (hb : b ≤ 35184372088832) : IntKind.i64.wrap ((a : Int) + (b : Int)) = ((a + b : Nat) : Int) := by rw [IntWalk.i64_in _ (by omega)]; omega
/-- do the runes of del stand at a place p of a line? -/
def standsP (l : List Int) (p : Int) (d : List Int) : Bool := decide (0 ≤ p ∧ p ≤ l.length ∧ (l.drop p.toNat).take d.length = d)
def apErr (l : List Int) (e : Ed) : Int := if standsP l e.p e.d = false then 1 else if 1024 < (l.length : Int) - e.d.length + e.i.length then 3 else 0
def apLine (l : List Int) (e : Ed) : List Int := l.take e.p.toNat ++ (e.i ++ l.drop (e.p.toNat + e.d.length))
def apRes (l : List Int) (e : Ed) : List Int := if apErr l e = 0 then apLine l e else []
set_option maxRecDepth 1000000 in
set_option maxHeartbeats 4000000 in
theorem stands_any (w : World) (l d : List Int) (lv dv : Value) (hl : Holds1 w lv (runeVals l)) (hd : Holds1 w dv (runeVals d)) (hdl : d.length ≤ 35184372088832) (p : Int) :
    Calls Try.prog 45 #[lv, .int .i64 p, dv] w fun e w' => e = .returned (.bool (standsP l p d)) ∧ Below w.heap.size w w' := by
  obtain ⟨A, c, rfl, hcap, _⟩ := id hl
  obtain ⟨A2, c2, rfl, _⟩ := id hd
  rw [runeVals_length] at hl hd hcap ⊢
  rw [runeVals_length]
  by_cases h0 : p < 0
  · have HE : Hid (standsP l p d = false) := Lib.hid (by unfold standsP; rw [decide_eq_false_iff_not]; omega)
    have i0 : (p < 0) = True := by simp; omega
    clear h0 hl hd hcap hdl
    generalize l.length = n at *
    generalize d.length = m at *
    go_enter Try.func45, Try.ntmps45
    go_wp2
    go_ret
    exact ⟨ret_bool HE.out.symm, Below.refl _ _⟩
  · by_cases h1 : (l.length : Int) < p
    · have HE : Hid (standsP l p d = false) := Lib.hid (by unfold standsP; rw [decide_eq_false_iff_not]; omega)
      have i0 : (p < 0) = False := by simp; omega
      have i1 : (p > (l.length : Int)) = True := by simp; omega
      have i2 : ((l.length : Int) < p) = True := by simp; omega
      clear h0 h1 hl hd hcap hdl
      generalize l.length = n at *
      generalize d.length = m at *
      go_enter Try.func45, Try.ntmps45
      go_wp2
      go_ret
      exact ⟨ret_bool HE.out.symm, Below.refl _ _⟩
    · obtain ⟨k, rfl⟩ : ∃ k : Nat, p = (k : Int) := ⟨p.toNat, by omega⟩
      have hk : k ≤ l.length := by omega
      have ht := hl.tail hk
      have i0 : ((k : Int) < 0) = False := by simp
      have i1 : ((k : Int) > (l.length : Int)) = False := by simp; omega
      have i2 : ((l.length : Int) < (k : Int)) = False := by simp; omega
      have i3 : (l.length < k) = False := by simp; omega
      have s1 := fun W => slice_at A l.length c k hk W
      have s2 := fun W => sliceAt_from A l.length c k hk W
      have hdr : (l.drop k).length = l.length - k := List.length_drop
      by_cases h2 : d.length ≤ l.length - k
      · rw [show l.length - k = (l.drop k).length from hdr.symm] at ht
        have hh := ht.head (k := d.length) (by rw [hdr]; exact h2)
        have i4 : (((d.length : Nat) : Int) ≤ ((l.length - k : Nat) : Int)) = True := by simp; omega
        have i5 : (d.length ≤ l.length - k) = True := by simp; omega
        have s3 := fun W => slice_to (tailA A c k 1) (l.length - k) (c - k) d.length (by omega) W
        have s4 := fun W => sliceAt_to (tailA A c k 1) (l.length - k) (c - k) d.length (by omega) W
        have hh2 : Holds1 w (.slice (tailA A c k 1) ((l.drop k).take d.length).length (c - k)) (runeVals ((l.drop k).take d.length)) := by
          rw [List.length_take, hdr, Nat.min_eq_left h2]
          exact hh
        have CE := equal_any w _ d _ _ hh2 hd (by rw [List.length_take]; omega)
        rw [List.length_take, hdr, Nat.min_eq_left h2] at CE
        have CE := Lib.hid CE
        have HE : Hid (standsP l k d = decide ((l.drop k).take d.length = d)) := Lib.hid (by
          unfold standsP
          rw [Int.toNat_natCast, decide_eq_decide]
          exact ⟨fun h => h.2.2, fun h => ⟨by omega, by omega, h⟩⟩)
        clear h0 h1 hl hd hcap hdl ht hh hh2 hdr h2 hk
        generalize decide ((l.drop k).take d.length = d) = bb at *
        generalize l.length - k = q at *
        generalize l.length = n at *
        generalize d.length = m at *
        generalize tailA A c k 1 = TA at *
        generalize c - k = ck at *
        go_enter Try.func45, Try.ntmps45
        go_wp2_with (first
          | (go_at_call 61; refine (CE.out).mono ?_; rintro e w1 ⟨rfl, hb⟩))
        go_ret
        exact ⟨ret_bool HE.out.symm, hb⟩
      · have HE : Hid (standsP l k d = false) := Lib.hid (by
          unfold standsP
          rw [Int.toNat_natCast, decide_eq_false_iff_not]
          rintro ⟨_, _, h⟩
          have := congrArg List.length h
          rw [List.length_take, hdr] at this
          omega)
        have i4 : (((d.length : Nat) : Int) ≤ ((l.length - k : Nat) : Int)) = False := by simp; omega
        have i5 : (d.length ≤ l.length - k) = False := by simp; omega
        clear h0 h1 hl hd hcap hdl ht hdr h2 hk
        generalize l.length - k = q at *
        generalize l.length = n at *
        generalize d.length = m at *
        generalize tailA A c k 1 = TA at *
        generalize c - k = ck at *
        go_enter Try.func45, Try.ntmps45
        go_wp2
        go_ret
        exact ⟨ret_bool HE.out.symm, Below.refl _ _⟩
def ApPost (w : World) (l : List Int) (e : Ed) (x : Ending) (w' : World) : Prop := ∃ A n c, x = .returned (.tuple #[.slice A n c, .int .i64 (apErr l e)]) ∧ RRow w' w.heap.size (.slice A n c) (apRes l e) ∧ Below w.heap.size w w'
theorem ApPost.bad {w w' : World} {l : List Int} {e : Ed} {c : Int} (h : apErr l e = c) (h0 : c ≠ 0) (hb : Below w.heap.size w w') : ApPost w l e (.returned (.tuple #[.slice none 0 0, .int .i64 c])) w' :=
  ⟨none, 0, 0, by rw [h], by unfold apRes; rw [if_neg (by rw [h]; exact h0)]; exact RRow.nil _ _, hb⟩
set_option maxRecDepth 1000000 in
set_option maxHeartbeats 4000000 in
theorem apply_any (w : World) (l : List Int) (e : Ed) (lv dv iv : Value) (hl : Holds1 w lv (runeVals l)) (hd : Holds1 w dv (runeVals e.d)) (hi : Holds1 w iv (runeVals e.i)) (hll : l.length ≤ 35184372088832) (hdl : e.d.length ≤ 35184372088832) (hil : e.i.length ≤ 35184372088832) :
    Calls Try.prog 9 #[lv, editV e.p dv iv] w (ApPost w l e) := by
  obtain ⟨A, c, rfl, hcap, _⟩ := id hl
  obtain ⟨A2, c2, rfl, _⟩ := id hd
  obtain ⟨A3, c3, rfl, _⟩ := id hi
  rw [runeVals_length] at hl hd hi hcap ⊢
  rw [runeVals_length]
  rw [runeVals_length]
  obtain ⟨w1, hw1⟩ : ∃ w1, w1 = w.alloc (.cells #[.int .i64 e.p, .slice A2 e.d.length c2, .slice A3 e.i.length c3] 24) := ⟨_, rfl⟩
  have b1 : Below w.heap.size w w1 := by rw [hw1]; exact (Below.refl _ _).alloc (Nat.le_refl _) _
  have X := Lib.hid (edit_cells hw1)
  have B := Lib.hid b1
  have HW1 := Lib.hid hw1
  have x0 := X.out.cell 0
  have x1 := X.out.cell 1
  have x2 := X.out.cell 2
  have CS := Lib.hid (stands_any w1 l e.d _ _ (hl.below b1) (hd.below b1) hdl e.p)
  by_cases h0 : standsP l e.p e.d = false
  · rw [h0] at CS
    have HP := Lib.hid fun (W : World) (hb : Below w.heap.size w W) => ApPost.bad (l := l) (e := e) (c := 1) (by unfold apErr; rw [if_pos h0]) (by decide) hb
    clear h0 hl hd hi hcap hll hdl hil b1 hw1
    generalize l.length = n at *
    generalize e.d.length = m at *
    generalize e.i.length = m3 at *
    go_enter Try.func9, Try.ntmps9
    go_wp2_with fail
    rw [← HW1.out]
    go_wp2_with (first
      | (go_at_call 45; refine (CS.out).mono ?_; rintro e w2 ⟨rfl, hb⟩; have B := Lib.hid (B.out.trans (hb.mono B.out.size)); clear hb))
    go_ret2
    exact HP.out _ B.out
  · have h0' : standsP l e.p e.d = true := by simpa using h0
    rw [h0'] at CS
    have hst := h0'
    unfold standsP at hst
    rw [decide_eq_true_iff] at hst
    obtain ⟨hp0, hp1, htk⟩ := hst
    obtain ⟨k, hk⟩ : ∃ k : Nat, e.p = (k : Int) := ⟨e.p.toNat, by omega⟩
    have hkt : e.p.toNat = k := by omega
    rw [hkt] at htk
    have hdk : k + e.d.length ≤ l.length := by
      have := congrArg List.length htk
      rw [List.length_take, List.length_drop] at this
      omega
    have hq1 : l.length - e.d.length ≤ 35184372088832 := by omega
    have hq2 : e.d.length ≤ l.length := by omega
    have HX2 : Hid (∀ W, Below w1.heap.size w1 W → W.cell? ⟨w.heap.size, 0, none⟩ = some (.int .i64 e.p) ∧ W.cell? ⟨w.heap.size, 1, none⟩ = some (.slice A2 e.d.length c2) ∧ W.cell? ⟨w.heap.size, 2, none⟩ = some (.slice A3 e.i.length c3)) := Lib.hid fun W hb => ⟨(X.out.below hb).cell 0, (X.out.below hb).cell 1, (X.out.below hb).cell 2⟩
    by_cases h3 : 1024 < l.length - e.d.length + e.i.length
    · have HP := Lib.hid fun (W : World) (hb : Below w.heap.size w W) => ApPost.bad (l := l) (e := e) (c := 3) (by unfold apErr; rw [if_neg h0, if_pos (by omega)]) (by decide) hb
      have i1 : (((l.length - e.d.length + e.i.length : Nat) : Int) > 1024) = True := by simp; omega
      have i2 : ((1024 : Int) < ((l.length - e.d.length + e.i.length : Nat) : Int)) = True := by simp; omega
      have i3 : (1024 < l.length - e.d.length + e.i.length) = True := by simp; omega
      have j1 := wi_sub hq2 hll
      have j2 := wi_add hq1 hil
      have w1' := wr_sub hq2 hll
      have w2' := wr_add hq1 hil
      clear h0 h0' hl hd hi hcap hll hdl hil b1 hw1 hp0 hp1 htk hk hkt hdk h3 hq1 hq2
      generalize l.length - e.d.length + e.i.length = q2 at *
      generalize l.length - e.d.length = q1 at *
      generalize l.length = n at *
      generalize e.d.length = m at *
      generalize e.i.length = m3 at *
      go_enter Try.func9, Try.ntmps9
      go_wp2_with fail
      rw [← HW1.out]
      go_wp2_with (first
        | (go_at_call 45; refine (CS.out).mono ?_; rintro e w2 ⟨rfl, hb⟩; have B := Lib.hid (B.out.trans (hb.mono B.out.size)); have x1 := (HX2.out _ hb).2.1; have x2 := (HX2.out _ hb).2.2; clear hb))
      go_ret2
      exact HP.out _ B.out
    · have herr : apErr l e = 0 := by unfold apErr; rw [if_neg h0, if_neg (by omega)]
      obtain ⟨p, d, i⟩ := e
      dsimp only at *
      subst hk
      rw [Int.toNat_natCast] at hkt
      have hlt : (l.take k).length = k := by rw [List.length_take]; omega
      have hld : (l.drop (k + d.length)).length = l.length - (k + d.length) := List.length_drop
      have hTk : Holds1 w (.slice A (l.take k).length c) (runeVals (l.take k)) := by rw [hlt]; exact hl.head (by omega)
      have hTd : Holds1 w (.slice (tailA A c (k + d.length) 1) (l.drop (k + d.length)).length (c - (k + d.length))) (runeVals (l.drop (k + d.length))) := by rw [hld]; exact hl.tail hdk
      have hflat : [l.take k, i, l.drop (k + d.length)].flatten = apLine l ⟨k, d, i⟩ := by simp [apLine]
      have CC : Hid (∀ W, Below w.heap.size w W → Calls Try.prog 46 #[.slice (some ⟨W.heap.size, 0, none⟩) 3 3] (W.alloc (.cells #[.slice A k c, .slice A3 i.length c3, .slice (tailA A c (k + d.length) 1) (l.length - (k + d.length)) (c - (k + d.length))] 22)).drew fun x w' => ∃ A n c, x = .returned (.slice A n c) ∧ RRow w' w.heap.size (.slice A n c) (apLine l ⟨k, d, i⟩) ∧ Below W.heap.size W w') := Lib.hid fun W hb => by
        have hb2 : Below W.heap.size W (W.alloc (.cells #[.slice A k c, .slice A3 i.length c3, .slice (tailA A c (k + d.length) 1) (l.length - (k + d.length)) (c - (k + d.length))] 22)).drew := ((Below.refl _ _).alloc (Nat.le_refl _) _).drew
        have hb3 := hb.trans (hb2.mono hb.size)
        have hn : (W.alloc (.cells #[.slice A k c, .slice A3 i.length c3, .slice (tailA A c (k + d.length) 1) (l.length - (k + d.length)) (c - (k + d.length))] 22)).drew.heap[W.heap.size]? = some (.cells #[.slice A (l.take k).length c, .slice A3 i.length c3, .slice (tailA A c (k + d.length) 1) (l.drop (k + d.length)).length (c - (k + d.length))] 22 (0, 0)) := by rw [hlt, hld]; exact alloc_new W _
        have hR := rows_three hn (hTk.below hb3) (hi.below hb3) (hTd.below hb3)
        refine (concat_any _ _ _ _ _ hR ⟨by rw [hflat]; simp only [apLine, List.length_append, Int.toNat_natCast]; rw [hlt, hld]; omega, by simp⟩).mono ?_
        rintro x w' ⟨r, rfl, h1, h2⟩
        rw [hflat] at h1
        have h1' : RRow w' _ r (apLine l ⟨k, d, i⟩) := h1
        obtain ⟨Ar, nr, cr, rfl⟩ := h1'.form3
        exact ⟨Ar, nr, cr, rfl, h1'.less hb3.size, hb2.trans (h2.mono hb2.size)⟩
      have i1 : (((l.length - d.length + i.length : Nat) : Int) > 1024) = False := by simp; omega
      have i2 : ((1024 : Int) < ((l.length - d.length + i.length : Nat) : Int)) = False := by simp; omega
      have i3 : (1024 < l.length - d.length + i.length) = False := by simp; omega
      have s1 := fun W => slice_to A l.length c k (by omega) W
      have s2 := fun W => sliceAt_to A l.length c k (by omega) W
      have s3 := fun W => slice_at A l.length c (k + d.length) hdk W
      have s4 := fun W => sliceAt_from A l.length c (k + d.length) hdk W
      have hkm : k ≤ 35184372088832 := by omega
      have j1 := wi_sub hq2 hll
      have j2 := wi_add hq1 hil
      have j3 := wi_add hkm hdl
      have w1' := wr_sub hq2 hll
      have w2' := wr_add hq1 hil
      have w3' := wr_add hkm hdl
      have HP := Lib.hid fun (W : World) (A n c : _) (hr : RRow W w.heap.size (.slice A n c) (apLine l ⟨k, d, i⟩)) (hb : Below w.heap.size w W) => show ApPost w l ⟨k, d, i⟩ (.returned (.tuple #[.slice A n c, .int .i64 0])) W from ⟨A, n, c, by rw [herr], by unfold apRes; rw [if_pos herr]; exact hr, hb⟩
      clear h0 h0' hl hd hi hcap hll hdl hil b1 hw1 hp0 hp1 htk hkt hdk h3 hq1 hq2 hlt hld hTk hTd hflat hkm herr
      generalize l.length - d.length + i.length = q2 at *
      generalize l.length - d.length = q1 at *
      generalize apLine l ⟨k, d, i⟩ = al at *
      generalize l.length - (k + d.length) = q3 at *
      generalize tailA A c (k + d.length) 1 = TA at *
      generalize c - (k + d.length) = ck at *
      generalize k + d.length = km at *
      generalize l.length = n at *
      generalize d.length = m at *
      generalize i.length = m3 at *
      go_enter Try.func9, Try.ntmps9
      go_wp2_with fail
      rw [← HW1.out]
      go_wp2_with (first
        | (go_at_call 45; refine (CS.out).mono ?_; rintro e w2 ⟨rfl, hb⟩; have D := Lib.hid hb; have x1 := (HX2.out _ hb).2.1; have x2 := (HX2.out _ hb).2.2; clear hb))
      have hT0 := HX2.out w2.drew (D.out.trans ((Below.refl _ _).drew.mono D.out.size))
      have hTA := fun o => HX2.out (w2.alloc o).drew ((D.out.alloc D.out.size o).drew)
      go_region_held3 (fun W => W.cell? ⟨w.heap.size, 0, none⟩ = some (.int .i64 (k : Int)) ∧ W.cell? ⟨w.heap.size, 1, none⟩ = some (.slice A2 m c2) ∧ W.cell? ⟨w.heap.size, 2, none⟩ = some (.slice A3 m3 c3)) (first | with_reducible exact hT0 | with_reducible exact hTA _ | with_reducible exact hT3 | fail) (first
        | (go_at_call 46; refine (CC.out _ (B.out.trans (D.out.mono B.out.size))).mono ?_; rintro e w3 ⟨Ar, nr, cr, rfl, hr, hb⟩; have D3 := Lib.hid (D.out.trans (hb.mono D.out.size)); have hT3 := HX2.out w3 D3.out; have R3 := Lib.hid hr; clear hr hb))
      all_goals
        go_wp2
        go_ret2
        exact HP.out _ _ _ _ R3.out (B.out.trans (D3.out.mono B.out.size))
end Go.Proofs.Ytjgjbdpknfplkaa
