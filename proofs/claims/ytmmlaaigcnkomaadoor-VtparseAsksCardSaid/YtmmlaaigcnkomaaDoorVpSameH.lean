/-
  The document's Same at any two lists of actions.
-/
import Derived.Test.YtmmlaaigcnkomaaDoorVpSameG
import Derived.Test.YtmmlaaigcnkomaaDoorVpSame
namespace Go.Proofs.YtmmlaaigcnkomaaDoor
open Go.RowKit Go.Shelf Go.Lib
attribute [local go_sem] Oper.semAt_some

abbrev zObj (x : ActZ) (pv : Value) : Obj := .cells #[.int .i64 x.kind, .int .i32 x.rune, .int .u8 x.fin.toNat, .int .u8 x.priv.toNat, pv, str x.inter, str x.text] 39
set_option maxRecDepth 1000000 in
set_option maxHeartbeats 8000000 in
theorem refSame_any (l m : List ActZ) (v v' : Value) (w : World) (hv : HoldsZ w v l) (hv' : HoldsZ w v' m) :
    Calls Tryd.prog 13 #[v, v'] w fun e w' => e = .returned (.bool (decide (l = m))) ∧ Below w.heap.size w w' := by
  have HV := Lib.hid hv
  have HV' := Lib.hid hv'
  obtain ⟨A, c, e1, hl, h⟩ := hv
  obtain ⟨A', c', e2, hl', h'⟩ := hv'
  subst e1 e2
  clear h h' hl'
  by_cases hn : l.length = m.length
  case neg =>
    have n1 : ((l.length : Int) != (m.length : Int)) = true := bne_iff_ne.2 (by omega)
    have n2 : ((l.length : Int) = (m.length : Int)) = False := eq_false (by omega)
    have HE : Hid (decide (l = m) = false) := Lib.hid (decide_eq_false (fun e => hn (by rw [e])))
    clear hn hl HV HV'
    go_enter Tryd.func13, Tryd.ntmps13
    go_wp2
    go_ret
    exact ⟨by rw [HE.out]; rfl, Below.refl _ _⟩
  have n1 : ((l.length : Int) = (m.length : Int)) = True := eq_true (by omega)
  have HL := Lib.hid hl
  have HN := Lib.hid hn
  clear hl hn
  have HV1 : Hid (HoldsZ w (.slice A l.length c) l) := HV
  have HV2 : Hid (HoldsZ w (.slice A' m.length c') m) := HV'
  clear HV HV'
  go_enter Tryd.func13, Tryd.ntmps13
  rw [← HN.out]
  go_wp2
  go_loopw [5] (fun i wr => EqZ l m w i wr) (fun i _ => l.length - (RowKit.intOf i).toNat)
  case atStart => exact ⟨0, by omega, rfl, rfl, Below.refl _ _⟩
  case round =>
    obtain ⟨k, hk, ht, rfl, hb⟩ := hrel
    by_cases hlt : k < l.length
    · obtain ⟨x, hx⟩ : ∃ x, l[k]? = some x := ⟨_, List.getElem?_eq_getElem hlt⟩
      obtain ⟨y, hy⟩ : ∃ y, m[k]? = some y := ⟨_, List.getElem?_eq_getElem (by rw [← HN.out]; exact hlt)⟩
      obtain ⟨A5, c5, e5, _, hc5⟩ := HV1.out.below hb
      obtain ⟨A6, c6, e6, _, hc6⟩ := HV2.out.below hb
      injection e5 with e1 e2 e3
      subst e1 e3
      clear e2
      injection e6 with e1 e2 e3
      subst e1 e3
      clear e2
      obtain ⟨b5, o5, rfl, hltp, hc5⟩ := hc5 (by omega)
      obtain ⟨b6, o6, rfl, hltq, hc6⟩ := hc6 (by have := HN.out; omega)
      obtain ⟨pv, hp, hpl, k0, k1, k2, k3, k4, k5, k6⟩ := hc5 k x hx
      obtain ⟨qv, hq, hql, m0, m1, m2, m3, m4, m5, m6⟩ := hc6 k y hy
      have HP1 := Lib.hid hp
      have HQ1 := Lib.hid hq
      obtain ⟨Ap, cp, e1, _⟩ := hp
      obtain ⟨Aq, cq, e2, _⟩ := hq
      rw [intVals_length] at e1 e2
      subst e1 e2
      have i1 : (0 : Int) ≤ (k : Int) := by omega
      have i2 : ((k : Int) < (l.length : Int)) = True := eq_true (by omega)
      have hwk : wrap64 ((k : Int) + 1) = (k : Int) + 1 := by have := HL.out; unfold wrap64; omega
      have HB := Lib.hid hb
      have HT := Lib.hid ht
      have HLT := Lib.hid hlt
      have HX := Lib.hid hx
      have HY := Lib.hid hy
      have HPL := Lib.hid hpl
      clear hc5 hc6 hb ht hlt hk hx hy hpl hql
      go_wp2
      go_region
      · have hP : (((wr.alloc (zObj x (.slice Ap x.ps.length cp))).alloc (zObj y (.slice Aq y.ps.length cq))).drew).heap[wr.heap.size]? = some (zObj x (.slice Ap x.ps.length cp)) := (Below.heap_alloc (wr.alloc (zObj x (.slice Ap x.ps.length cp))) _ _ (by simp)).trans (heap_alloc_new wr _)
        have hQ : (((wr.alloc (zObj x (.slice Ap x.ps.length cp))).alloc (zObj y (.slice Aq y.ps.length cq))).drew).heap[wr.heap.size + 1]? = some (zObj y (.slice Aq y.ps.length cq)) := alloc_two wr (zObj x (.slice Ap x.ps.length cp)) (zObj y (.slice Aq y.ps.length cq))
        have hba : Below wr.heap.size wr ((wr.alloc (zObj x (.slice Ap x.ps.length cp))).alloc (zObj y (.slice Aq y.ps.length cq))).drew := (two_below wr _ _).drew
        have HB2 := Lib.hid (HB.out.trans (hba.mono HB.out.size))
        have HI3 := Lib.hid (HP1.out.below hba)
        have HI4 := Lib.hid (HQ1.out.below hba)
        clear hba HP1 HQ1
        generalize ((wr.alloc (zObj x (.slice Ap x.ps.length cp))).alloc (zObj y (.slice Aq y.ps.length cq))).drew = W2 at *
        obtain ⟨gx, hgx⟩ : ∃ x, x = wr.heap.size := ⟨_, rfl⟩
        obtain ⟨gy, hgy⟩ : ∃ y, y = wr.heap.size + 1 := ⟨_, rfl⟩
        rw [← hgx] at hP
        rw [← hgy] at hQ
        have p0 := cell_of_row _ _ 0 _ _ _ hP
        have p1 := cell_of_row _ _ 1 _ _ _ hP
        have p2 := cell_of_row _ _ 2 _ _ _ hP
        have p3 := cell_of_row _ _ 3 _ _ _ hP
        have p4 := cell_of_row _ _ 4 _ _ _ hP
        have p5 := cell_of_row _ _ 5 _ _ _ hP
        have p6 := cell_of_row _ _ 6 _ _ _ hP
        have q0 := cell_of_row _ _ 0 _ _ _ hQ
        have q1 := cell_of_row _ _ 1 _ _ _ hQ
        have q2 := cell_of_row _ _ 2 _ _ _ hQ
        have q3 := cell_of_row _ _ 3 _ _ _ hQ
        have q4 := cell_of_row _ _ 4 _ _ _ hQ
        have q5 := cell_of_row _ _ 5 _ _ _ hQ
        have q6 := cell_of_row _ _ 6 _ _ _ hQ
        have HP := Lib.hid (Array.getElem?_eq_some_iff.1 hP).1
        have HQ := Lib.hid (Array.getElem?_eq_some_iff.1 hQ).1
        clear hP hQ k0 k1 k2 k3 k4 k5 k6 m0 m1 m2 m3 m4 m5 m6
        rw [← hgy, ← hgx]
        clear hgx hgy hltp hltq
        obtain ⟨xk, xr, xf, xp, xs, xi, xt⟩ := x
        obtain ⟨yk, yr, yf, yp, ys, yi, yt⟩ := y
        have HNE := Lib.hid fun h => ne_at l m k _ _ h HX.out HY.out
        dsimp only at *
        by_cases h : xk = yk
        case neg =>
          have HE : Hid (decide (l = m) = false) := Lib.hid (decide_eq_false (HNE.out fun q => by injection q; contradiction))
          have n : (xk != yk) = true := bne_iff_ne.2 h
          clear h HNE HX HY HI3 HI4 HT
          go_wp2
          go_ret
          exact ⟨by rw [HE.out]; rfl, HB2.out⟩
        subst h
        by_cases h : xr = yr
        case neg =>
          have HE : Hid (decide (l = m) = false) := Lib.hid (decide_eq_false (HNE.out fun q => by injection q; contradiction))
          have n : (xr != yr) = true := bne_iff_ne.2 h
          clear h HNE HX HY HI3 HI4 HT
          go_wp2
          go_ret
          exact ⟨by rw [HE.out]; rfl, HB2.out⟩
        subst h
        by_cases h : xf = yf
        case neg =>
          have HE : Hid (decide (l = m) = false) := Lib.hid (decide_eq_false (HNE.out fun q => by injection q; contradiction))
          have n : ((xf.toNat : Int) != (yf.toNat : Int)) = true := bne_iff_ne.2 fun q => h (UInt8.toNat_inj.1 (by omega))
          clear h HNE HX HY HI3 HI4 HT
          go_wp2
          go_ret
          exact ⟨by rw [HE.out]; rfl, HB2.out⟩
        subst h
        by_cases h : xp = yp
        case neg =>
          have HE : Hid (decide (l = m) = false) := Lib.hid (decide_eq_false (HNE.out fun q => by injection q; contradiction))
          have n : ((xp.toNat : Int) != (yp.toNat : Int)) = true := bne_iff_ne.2 fun q => h (UInt8.toNat_inj.1 (by omega))
          clear h HNE HX HY HI3 HI4 HT
          go_wp2
          go_ret
          exact ⟨by rw [HE.out]; rfl, HB2.out⟩
        subst h
        by_cases h : xi = yi
        case neg =>
          have HE : Hid (decide (l = m) = false) := Lib.hid (decide_eq_false (HNE.out fun q => by injection q; contradiction))
          have n : (xi == yi) = false := beq_eq_false_iff_ne.2 h
          have n' : (xi = yi) = False := eq_false h
          clear h HNE HX HY HI3 HI4 HT
          go_wp2
          go_ret
          exact ⟨by rw [HE.out]; rfl, HB2.out⟩
        subst h
        by_cases h : xt = yt
        case neg =>
          have HE : Hid (decide (l = m) = false) := Lib.hid (decide_eq_false (HNE.out fun q => by injection q; contradiction))
          have n : (xt == yt) = false := beq_eq_false_iff_ne.2 h
          have n' : (xt = yt) = False := eq_false h
          clear h HNE HX HY HI3 HI4 HT
          go_wp2
          go_ret
          exact ⟨by rw [HE.out]; rfl, HB2.out⟩
        subst h
        by_cases h : xs.length = ys.length
        case neg =>
          have HE : Hid (decide (l = m) = false) := Lib.hid (decide_eq_false (HNE.out fun q => by injection q; subst_vars; exact h rfl))
          have n : ((xs.length : Int) != (ys.length : Int)) = true := bne_iff_ne.2 (by omega)
          have n2 : ((xs.length : Int) = (ys.length : Int)) = False := eq_false (by omega)
          clear h HNE HX HY HI3 HI4 HT
          go_wp2
          go_ret
          exact ⟨by rw [HE.out]; rfl, HB2.out⟩
        have n1 : ((xs.length : Int) = (ys.length : Int)) = True := eq_true (by omega)
        have HLN := Lib.hid h
        rw [← h] at q4
        clear h
        go_wp2
        clear p0 p1 p2 p3 p5 p6 q0 q1 q2 q3 q5 q6
        go_loopw [8] (fun i wr' => EqI xs ys W2 i wr') (fun i _ => xs.length - (RowKit.intOf i).toNat)
        case atStart => exact ⟨0, Nat.zero_le _, rfl, rfl, Below.refl _ _⟩
        case round =>
          obtain ⟨j, hj, htj, rfl, hb⟩ := hrel
          have p4' := (hb.cell (p := ⟨gx, 4, none⟩) HP.out).trans p4
          have q4' := (hb.cell (p := ⟨gy, 4, none⟩) HQ.out).trans q4
          by_cases hjl : j < xs.length
          · obtain ⟨u, hu⟩ : ∃ u, xs[j]? = some u := ⟨_, List.getElem?_eq_getElem hjl⟩
            obtain ⟨u', hu'⟩ : ∃ u', ys[j]? = some u' := ⟨_, List.getElem?_eq_getElem (by rw [← HLN.out]; exact hjl)⟩
            obtain ⟨A5, c5, e5, _, hc5⟩ := HI3.out.below hb
            obtain ⟨A6, c6, e6, _, hc6⟩ := HI4.out.below hb
            rw [intVals_length] at e5 e6 hc5 hc6
            injection e5 with e1 e2 e3
            subst e1 e3
            clear e2
            injection e6 with e1 e2 e3
            subst e1 e3
            clear e2
            obtain ⟨b5, o5, rfl, _, hc5⟩ := hc5 (by omega)
            obtain ⟨b6, o6, rfl, _, hc6⟩ := hc6 (by have := HLN.out; omega)
            have l5 := hc5 j (.int .i64 u) (by simp [intVals, hu])
            have l6 := hc6 j (.int .i64 u') (by simp [intVals, hu'])
            have j1 : (0 : Int) ≤ (j : Int) := by omega
            have j2 : ((j : Int) < (xs.length : Int)) = True := eq_true (by omega)
            have hwj : wrap64 ((j : Int) + 1) = (j : Int) + 1 := by have := HPL.out; unfold wrap64; omega
            have HJ := Lib.hid hb
            have HJL := Lib.hid hjl
            have HTJ := Lib.hid htj
            have HU := Lib.hid hu
            have HU' := Lib.hid hu'
            clear hc5 hc6 hjl hj hu hu' hb p4 q4 htj
            by_cases huu : u = u'
            · have HU2 : Hid (ys[j]? = some u) := Lib.hid (by rw [huu]; exact HU'.out)
              subst huu
              go_wp2
              go_region
              go_wp2
              go_roundw
              case rel => exact ⟨j + 1, HJL.out, take_step xs ys j u HTJ.out HU.out HU2.out, next_val hwj, HJ.out.drew⟩
              case measure => exact measure_lt HJL.out hwj
            · have HE : Hid (decide (l = m) = false) := Lib.hid (decide_eq_false (HNE.out fun q => by injection q; subst_vars; exact huu (Option.some.inj (HU.out.symm.trans HU'.out))))
              have n : (u != u') = true := bne_iff_ne.2 huu
              clear huu HNE
              go_wp2
              go_region
              go_wp2
              go_ret
              exact ⟨by rw [HE.out]; rfl, HB2.out.trans ((HJ.out.drew).mono HB2.out.size)⟩
          · obtain rfl : j = xs.length := by omega
            have j2 : ((xs.length : Int) < (xs.length : Int)) = False := by simp
            have HPSE : Hid (xs = ys) := Lib.hid (by
              have h := htj
              rw [List.take_length] at h
              rw [h, HLN.out, List.take_length])
            have HY2 := HY.out
            rw [← HPSE.out] at HY2
            have HY3 := Lib.hid HY2
            clear hjl hj htj HY2
            go_wp2
            go_roundw
            case rel => exact ⟨k + 1, HLT.out, take_step l m k _ HT.out HX.out HY3.out, next_val hwk, HB2.out.trans (hb.mono HB2.out.size)⟩
            case measure => exact measure_lt HLT.out hwk
      · have hQ : (((wr.alloc (zObj y (.slice Aq y.ps.length cq))).alloc (zObj x (.slice Ap x.ps.length cp))).drew).heap[wr.heap.size]? = some (zObj y (.slice Aq y.ps.length cq)) := (Below.heap_alloc (wr.alloc (zObj y (.slice Aq y.ps.length cq))) _ _ (by simp)).trans (heap_alloc_new wr _)
        have hP : (((wr.alloc (zObj y (.slice Aq y.ps.length cq))).alloc (zObj x (.slice Ap x.ps.length cp))).drew).heap[wr.heap.size + 1]? = some (zObj x (.slice Ap x.ps.length cp)) := alloc_two wr (zObj y (.slice Aq y.ps.length cq)) (zObj x (.slice Ap x.ps.length cp))
        have hba : Below wr.heap.size wr ((wr.alloc (zObj y (.slice Aq y.ps.length cq))).alloc (zObj x (.slice Ap x.ps.length cp))).drew := (two_below wr _ _).drew
        have HB2 := Lib.hid (HB.out.trans (hba.mono HB.out.size))
        have HI3 := Lib.hid (HP1.out.below hba)
        have HI4 := Lib.hid (HQ1.out.below hba)
        clear hba HP1 HQ1
        generalize ((wr.alloc (zObj y (.slice Aq y.ps.length cq))).alloc (zObj x (.slice Ap x.ps.length cp))).drew = W2 at *
        obtain ⟨gy, hgy⟩ : ∃ x, x = wr.heap.size := ⟨_, rfl⟩
        obtain ⟨gx, hgx⟩ : ∃ y, y = wr.heap.size + 1 := ⟨_, rfl⟩
        rw [← hgy] at hQ
        rw [← hgx] at hP
        have p0 := cell_of_row _ _ 0 _ _ _ hP
        have p1 := cell_of_row _ _ 1 _ _ _ hP
        have p2 := cell_of_row _ _ 2 _ _ _ hP
        have p3 := cell_of_row _ _ 3 _ _ _ hP
        have p4 := cell_of_row _ _ 4 _ _ _ hP
        have p5 := cell_of_row _ _ 5 _ _ _ hP
        have p6 := cell_of_row _ _ 6 _ _ _ hP
        have q0 := cell_of_row _ _ 0 _ _ _ hQ
        have q1 := cell_of_row _ _ 1 _ _ _ hQ
        have q2 := cell_of_row _ _ 2 _ _ _ hQ
        have q3 := cell_of_row _ _ 3 _ _ _ hQ
        have q4 := cell_of_row _ _ 4 _ _ _ hQ
        have q5 := cell_of_row _ _ 5 _ _ _ hQ
        have q6 := cell_of_row _ _ 6 _ _ _ hQ
        have HP := Lib.hid (Array.getElem?_eq_some_iff.1 hP).1
        have HQ := Lib.hid (Array.getElem?_eq_some_iff.1 hQ).1
        clear hP hQ k0 k1 k2 k3 k4 k5 k6 m0 m1 m2 m3 m4 m5 m6
        rw [← hgx, ← hgy]
        clear hgx hgy hltp hltq
        obtain ⟨xk, xr, xf, xp, xs, xi, xt⟩ := x
        obtain ⟨yk, yr, yf, yp, ys, yi, yt⟩ := y
        have HNE := Lib.hid fun h => ne_at l m k _ _ h HX.out HY.out
        dsimp only at *
        by_cases h : xk = yk
        case neg =>
          have HE : Hid (decide (l = m) = false) := Lib.hid (decide_eq_false (HNE.out fun q => by injection q; contradiction))
          have n : (xk != yk) = true := bne_iff_ne.2 h
          clear h HNE HX HY HI3 HI4 HT
          go_wp2
          go_ret
          exact ⟨by rw [HE.out]; rfl, HB2.out⟩
        subst h
        by_cases h : xr = yr
        case neg =>
          have HE : Hid (decide (l = m) = false) := Lib.hid (decide_eq_false (HNE.out fun q => by injection q; contradiction))
          have n : (xr != yr) = true := bne_iff_ne.2 h
          clear h HNE HX HY HI3 HI4 HT
          go_wp2
          go_ret
          exact ⟨by rw [HE.out]; rfl, HB2.out⟩
        subst h
        by_cases h : xf = yf
        case neg =>
          have HE : Hid (decide (l = m) = false) := Lib.hid (decide_eq_false (HNE.out fun q => by injection q; contradiction))
          have n : ((xf.toNat : Int) != (yf.toNat : Int)) = true := bne_iff_ne.2 fun q => h (UInt8.toNat_inj.1 (by omega))
          clear h HNE HX HY HI3 HI4 HT
          go_wp2
          go_ret
          exact ⟨by rw [HE.out]; rfl, HB2.out⟩
        subst h
        by_cases h : xp = yp
        case neg =>
          have HE : Hid (decide (l = m) = false) := Lib.hid (decide_eq_false (HNE.out fun q => by injection q; contradiction))
          have n : ((xp.toNat : Int) != (yp.toNat : Int)) = true := bne_iff_ne.2 fun q => h (UInt8.toNat_inj.1 (by omega))
          clear h HNE HX HY HI3 HI4 HT
          go_wp2
          go_ret
          exact ⟨by rw [HE.out]; rfl, HB2.out⟩
        subst h
        by_cases h : xi = yi
        case neg =>
          have HE : Hid (decide (l = m) = false) := Lib.hid (decide_eq_false (HNE.out fun q => by injection q; contradiction))
          have n : (xi == yi) = false := beq_eq_false_iff_ne.2 h
          have n' : (xi = yi) = False := eq_false h
          clear h HNE HX HY HI3 HI4 HT
          go_wp2
          go_ret
          exact ⟨by rw [HE.out]; rfl, HB2.out⟩
        subst h
        by_cases h : xt = yt
        case neg =>
          have HE : Hid (decide (l = m) = false) := Lib.hid (decide_eq_false (HNE.out fun q => by injection q; contradiction))
          have n : (xt == yt) = false := beq_eq_false_iff_ne.2 h
          have n' : (xt = yt) = False := eq_false h
          clear h HNE HX HY HI3 HI4 HT
          go_wp2
          go_ret
          exact ⟨by rw [HE.out]; rfl, HB2.out⟩
        subst h
        by_cases h : xs.length = ys.length
        case neg =>
          have HE : Hid (decide (l = m) = false) := Lib.hid (decide_eq_false (HNE.out fun q => by injection q; subst_vars; exact h rfl))
          have n : ((xs.length : Int) != (ys.length : Int)) = true := bne_iff_ne.2 (by omega)
          have n2 : ((xs.length : Int) = (ys.length : Int)) = False := eq_false (by omega)
          clear h HNE HX HY HI3 HI4 HT
          go_wp2
          go_ret
          exact ⟨by rw [HE.out]; rfl, HB2.out⟩
        have n1 : ((xs.length : Int) = (ys.length : Int)) = True := eq_true (by omega)
        have HLN := Lib.hid h
        rw [← h] at q4
        clear h
        go_wp2
        clear p0 p1 p2 p3 p5 p6 q0 q1 q2 q3 q5 q6
        go_loopw [8] (fun i wr' => EqI xs ys W2 i wr') (fun i _ => xs.length - (RowKit.intOf i).toNat)
        case atStart => exact ⟨0, Nat.zero_le _, rfl, rfl, Below.refl _ _⟩
        case round =>
          obtain ⟨j, hj, htj, rfl, hb⟩ := hrel
          have p4' := (hb.cell (p := ⟨gx, 4, none⟩) HP.out).trans p4
          have q4' := (hb.cell (p := ⟨gy, 4, none⟩) HQ.out).trans q4
          by_cases hjl : j < xs.length
          · obtain ⟨u, hu⟩ : ∃ u, xs[j]? = some u := ⟨_, List.getElem?_eq_getElem hjl⟩
            obtain ⟨u', hu'⟩ : ∃ u', ys[j]? = some u' := ⟨_, List.getElem?_eq_getElem (by rw [← HLN.out]; exact hjl)⟩
            obtain ⟨A5, c5, e5, _, hc5⟩ := HI3.out.below hb
            obtain ⟨A6, c6, e6, _, hc6⟩ := HI4.out.below hb
            rw [intVals_length] at e5 e6 hc5 hc6
            injection e5 with e1 e2 e3
            subst e1 e3
            clear e2
            injection e6 with e1 e2 e3
            subst e1 e3
            clear e2
            obtain ⟨b5, o5, rfl, _, hc5⟩ := hc5 (by omega)
            obtain ⟨b6, o6, rfl, _, hc6⟩ := hc6 (by have := HLN.out; omega)
            have l5 := hc5 j (.int .i64 u) (by simp [intVals, hu])
            have l6 := hc6 j (.int .i64 u') (by simp [intVals, hu'])
            have j1 : (0 : Int) ≤ (j : Int) := by omega
            have j2 : ((j : Int) < (xs.length : Int)) = True := eq_true (by omega)
            have hwj : wrap64 ((j : Int) + 1) = (j : Int) + 1 := by have := HPL.out; unfold wrap64; omega
            have HJ := Lib.hid hb
            have HJL := Lib.hid hjl
            have HTJ := Lib.hid htj
            have HU := Lib.hid hu
            have HU' := Lib.hid hu'
            clear hc5 hc6 hjl hj hu hu' hb p4 q4 htj
            by_cases huu : u = u'
            · have HU2 : Hid (ys[j]? = some u) := Lib.hid (by rw [huu]; exact HU'.out)
              subst huu
              go_wp2
              go_region
              go_wp2
              go_roundw
              case rel => exact ⟨j + 1, HJL.out, take_step xs ys j u HTJ.out HU.out HU2.out, next_val hwj, HJ.out.drew⟩
              case measure => exact measure_lt HJL.out hwj
            · have HE : Hid (decide (l = m) = false) := Lib.hid (decide_eq_false (HNE.out fun q => by injection q; subst_vars; exact huu (Option.some.inj (HU.out.symm.trans HU'.out))))
              have n : (u != u') = true := bne_iff_ne.2 huu
              clear huu HNE
              go_wp2
              go_region
              go_wp2
              go_ret
              exact ⟨by rw [HE.out]; rfl, HB2.out.trans ((HJ.out.drew).mono HB2.out.size)⟩
          · obtain rfl : j = xs.length := by omega
            have j2 : ((xs.length : Int) < (xs.length : Int)) = False := by simp
            have HPSE : Hid (xs = ys) := Lib.hid (by
              have h := htj
              rw [List.take_length] at h
              rw [h, HLN.out, List.take_length])
            have HY2 := HY.out
            rw [← HPSE.out] at HY2
            have HY3 := Lib.hid HY2
            clear hjl hj htj HY2
            go_wp2
            go_roundw
            case rel => exact ⟨k + 1, HLT.out, take_step l m k _ HT.out HX.out HY3.out, next_val hwk, HB2.out.trans (hb.mono HB2.out.size)⟩
            case measure => exact measure_lt HLT.out hwk
    · obtain rfl : k = l.length := by omega
      have i2 : ((l.length : Int) < (l.length : Int)) = False := by simp
      have HE : Hid (decide (l = m) = true) := Lib.hid (decide_eq_true (by
        have h := ht
        rw [List.take_length] at h
        rw [h, HN.out, List.take_length]))
      clear hlt hk ht
      go_wp2
      go_ret
      exact ⟨by rw [HE.out]; rfl, hb⟩
end Go.Proofs.YtmmlaaigcnkomaaDoor
