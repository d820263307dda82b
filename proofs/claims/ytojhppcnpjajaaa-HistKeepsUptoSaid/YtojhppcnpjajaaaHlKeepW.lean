/-
  The law's walk: of all lines that were added the last ones are there.
-/
import Derived.Test.YtojhppcnpjajaaaHlHeld
import Derived.Test.YtojhppcnpjajaaaHlSearch
import Derived.Sort.CutIn
namespace Go.Proofs.Ytojhppcnpjajaaa
open Go.RowKit Go.Shelf Go.Lib
attribute [local go_sem] Oper.semAt_some

set_option maxRecDepth 1000000 in
set_option maxHeartbeats 1000000 in
theorem keeps_bad (w : World) (m : Int) (hm : okMost m = false) (A : Option Addr) (n c : Nat) :
    Calls Try.prog 5 #[.int .i64 m, .slice A n c] w fun e w' => e = .returned (.bool true) ∧ Below w.heap.size w w' := by
  have CN := Lib.hid (new_bad (w.alloc (.cells #[.bool false] 4)) m hm)
  have CB := Lib.hid fun W => begun_any W
  have hb0 := ((Below.refl w.heap.size w).alloc (Nat.le_refl _) (.cells #[.bool false] 4))
  have HB0 := Lib.hid (hb0.alloc hb0.size (.cells #[.pointer none] 24))
  have han : Box ((w.alloc (.cells #[.bool false] 4)).alloc (.cells #[.pointer none] 24)) w.heap.size (.bool false) 4 := alloc2_first w _ _
  have HA := Lib.hid han
  clear hb0 han
  by_cases h0 : 0 ≤ m
  · have i0 : decide (0 ≤ m) = true := decide_eq_true h0
    have i1 : decide (m ≤ 4096) = false := decide_eq_false fun h => by simp [okMost] at hm; omega
    clear hm h0
    go_enter Try.func5, Try.ntmps5
    go_wp2_with (first
      | (go_at_call 11; refine (CN.out).mono ?_; rintro e w1 ⟨rfl, rfl⟩)
      | (go_at_call 13; refine (CB.out _).mono ?_; rintro e w2 ⟨rfl, hb⟩; have HB2 := Lib.hid (HB0.out.trans (hb.mono HB0.out.size)); have HA2 := HA.out.same (hb.block _ HA.out.lt); have e1 := HA2.cell; have e2 := HA2.frozen; clear hb))
    have e3 := (HA2.set (.bool true)).cell
    refine bodyPost_ret (v := .bool true) (by simp [results, Try.results5, go_sem, e3]) rfl ⟨rfl, ?_⟩
    exact HB2.out.setCell (Nat.le_refl _) _
  · have i0 : decide (0 ≤ m) = false := decide_eq_false h0
    clear hm h0
    go_enter Try.func5, Try.ntmps5
    go_wp2_with (first
      | (go_at_call 11; refine (CN.out).mono ?_; rintro e w1 ⟨rfl, rfl⟩)
      | (go_at_call 13; refine (CB.out _).mono ?_; rintro e w2 ⟨rfl, hb⟩; have HB2 := Lib.hid (HB0.out.trans (hb.mono HB0.out.size)); have HA2 := HA.out.same (hb.block _ HA.out.lt); have e1 := HA2.cell; have e2 := HA2.frozen; clear hb))
    have e3 := (HA2.set (.bool true)).cell
    refine bodyPost_ret (v := .bool true) (by simp [results, Try.results5, go_sem, e3]) rfl ⟨rfl, ?_⟩
    exact HB2.out.setCell (Nat.le_refl _) _
theorem KE.far {w w8 W W' : World} {q5 q7 g : Nat} {v u : Value} {S : HS} {all : List HL} (h8 : KE w q5 q7 g v u S all w8) (h : KE w q5 q7 g v u S all W) (ht : Touch (fun j => w8.heap.size + 1 ≤ j) W W') : KE w q5 q7 g v u S all W' := by
  have kt : ∀ k, k < W.heap.size → k < w8.heap.size → W'.heap[k]? = W.heap[k]? := fun k h1 h2 => ht.block k h1 (by show ¬ (w8.heap.size + 1 ≤ k); omega)
  refine ⟨h.an.same (kt _ h.an.lt h8.an.lt), h.hb.same (kt _ h.hb.lt h8.hb.lt), h.ab.same (kt _ h.ab.lt h8.ab.lt), h.l.kept fun k hk => kt k (h.l.lt k hk) (h8.l.lt k hk), h.a.kept fun k hk => kt k (h.a.block k hk).1 (h8.a.block k hk).1, h.d, h.ge, h.gu, h.gq, h.b.trans (ht.below h.b.size fun k hk => ?_)⟩
  have := h8.an.lt
  have hk : w8.heap.size + 1 ≤ k := hk
  omega
theorem ke_first {w w1 w2 : World} {g : Nat} {v : Value} {S : HS} (hf : FreshL (w.alloc (.cells #[.bool false] 4)) w1 g v S) (hb : Below (w1.alloc (.cells #[.pointer (some ⟨g, 0, none⟩)] 24)).heap.size (w1.alloc (.cells #[.pointer (some ⟨g, 0, none⟩)] 24)) w2) :
    KE w w1.heap.size w2.heap.size g v (.slice none 0 0) S [] (w2.alloc (.cells #[.slice none 0 0] 22)) := by
  have s0 : (w.alloc (.cells #[.bool false] 4)).heap.size = w.heap.size + 1 := by simp
  have s1 := hf.below.size
  have b1 := (Below.refl w1.heap.size w1).alloc (Nat.le_refl _) (.cells #[.pointer (some ⟨g, 0, none⟩)] 24)
  have n1 : (w1.alloc (.cells #[.pointer (some ⟨g, 0, none⟩)] 24)).heap[w1.heap.size]? = some (.cells #[.pointer (some ⟨g, 0, none⟩)] 24 (0, 0)) := alloc_new _ _
  have b2 := (Below.refl w2.heap.size w2).alloc (Nat.le_refl _) (.cells #[.slice none 0 0] 22)
  have s2 := b1.size
  have s3 := hb.size
  have z1 := heap_lt n1
  have b0 := ((Below.refl w.heap.size w).alloc (Nat.le_refl _) (.cells #[.bool false] 4))
  have n0 : (w.alloc (.cells #[.bool false] 4)).heap[w.heap.size]? = some (.cells #[.bool false] 4 (0, 0)) := alloc_new _ _
  refine ⟨?_, ?_, alloc_new _ _, (((hf.at'.below b1).below hb).below b2), Seg.nil _ _ _, (fun k _ e => by cases e), fun k hk => ?_, (fun k e => by cases e), ?_, ((b0.trans (hf.below.mono b0.size)).trans (b1.mono (by omega))).trans ((hb.mono (by omega)).trans (b2.mono (by omega)))⟩
  · show _ = _
    rw [b2.block _ (by omega), hb.block _ (by omega), b1.block _ (by omega), hf.below.block _ (by omega)]
    exact n0
  · show _ = _
    rw [b2.block _ (by omega), hb.block _ z1]
    exact n1
  · have := hf.ge k hk
    omega
  · omega
set_option linter.unusedSimpArgs false in
set_option maxRecDepth 1000000 in
set_option maxHeartbeats 40000000 in
theorem keeps_ok (w : World) (m : Nat) (hm : m ≤ 4096) (A : Option Addr) (c : Nat) (ps : List (List HL)) (hp : PARTS w (.slice A ps.length c) ps) (hs : (ps.map List.length).sum + ps.length ≤ 1048576) :
    Calls Try.prog 5 #[.int .i64 (m : Int), .slice A ps.length c] w fun e w' => e = .returned (.bool true) ∧ Below w.heap.size w w' := by
  have CN := Lib.hid (new_ok (w.alloc (.cells #[.bool false] 4)) m hm)
  obtain ⟨g, hg⟩ : ∃ g, g = (w.alloc (.cells #[.bool false] 4)).heap.size := ⟨_, rfl⟩
  rw [← hg] at CN
  clear hg
  have CB := Lib.hid fun W => begun_any W
  have i0 : decide (0 ≤ (m : Int)) = true := decide_eq_true (by omega)
  have i1 : decide ((m : Int) ≤ 4096) = true := decide_eq_true (by omega)
  have HM := Lib.hid hm
  have HP := Lib.hid hp
  have HSUM := Lib.hid hs
  obtain ⟨n, hn⟩ : ∃ n, n = ps.length := ⟨_, rfl⟩
  rw [← hn]
  have HN := Lib.hid hn
  clear hm hp hs hn
  refine (callsIn_wide (n := 8)).1 ?_
  refine callsIn_of_wp_marks Try.func5 rfl trivial ?_ rfl
  simp only [Try.ntmps5, List.size_toArray, List.length_cons, List.length_nil, Nat.reduceAdd, Nat.reduceSub, Array.replicate_succ, Array.replicate_zero, List.push_toArray, List.append_toArray, List.nil_append, List.cons_append]
  refine wpIn_wide.2 ?_
  go_wp2_with (first
    | (go_at_call 11; refine (CN.out).mono ?_; rintro e w1 ⟨rfl, hf⟩; have HF := Lib.hid hf; clear hf)
    | (go_at_call 13; refine (CB.out _).mono ?_; rintro e w2 ⟨rfl, hb⟩; have hk := ke_first HF.out hb; rw [← canon_nil m] at hk; have HE := Lib.hid hk; have e5 := hk.hb.cell; have e7 := hk.ab.cell; clear hb hk))
  generalize w1.heap.size = q5 at *
  generalize w2.heap.size = q7 at *
  go_loopw [36] (fun i wr => ∃ k : Nat, k ≤ n ∧ i = .int .i64 (k : Int) ∧ ∃ v u, KE w q5 q7 g v u (canon m (accP (ps.take k))) (accP (ps.take k)) wr) (fun i _ => n - (RowKit.intOf i).toNat)
  case atStart => exact ⟨0, Nat.zero_le _, rfl, _, _, HE.out⟩
  case round =>
    obtain ⟨k, hk, rfl, v, u, hE⟩ := hrel
    have HE := Lib.hid hE
    have e5 := hE.hb.cell
    have e7 := hE.ab.cell
    by_cases hlt : k < n
    · have hx : ps[k]? = some (ps[k]'(by rw [← HN.out]; exact hlt)) := List.getElem?_eq_getElem _
      generalize ps[k]'(by rw [← HN.out]; exact hlt) = l at hx
      obtain ⟨A0, c0, ep, hpp⟩ := HP.out
      injection ep with ep1 _ ep3
      obtain ⟨b, off, uk, eA, hbl, hck, hh⟩ := hpp k l hx
      rw [← ep1] at eA
      subst eA
      have hcell := (hE.b.cell (p := ⟨b, off + k, none⟩) hbl).trans hck
      obtain ⟨Ak, ck, rfl⟩ := hh.form
      have hsum := acc_bound hx
      have HLL : Hid ((accP (ps.take k)).length + l.length ≤ 1000000000) := Lib.hid (by have := HSUM.out; omega)
      have hoff : HOff (Own g v) wr (.slice Ak l.length ck) l := fun W' hW' => hh.below (hE.b.trans (hW'.below hE.b.size fun j hj => Nat.le_of_lt (hE.ge j hj)))
      have CA := Add_any wr g v _ hE.l (.slice Ak l.length ck) l hoff (by have := HLL.out; omega)
      rw [canon_add m _ l HLL.out] at CA
      have HNX := Lib.hid (accP_snoc hx)
      have HHL : Hid (∀ W, Below w.heap.size w W → HH W (.slice Ak l.length ck) l) := Lib.hid fun W hW => hh.below hW
      obtain ⟨A7, c7, rfl⟩ := hE.a.holds.form
      have HLT := Lib.hid hlt
      have i2 : ((k : Int) < (n : Int)) = True := by simp; exact hlt
      have i3 : (k < n) = True := eq_true hlt
      have hwk : wrap64 ((k : Int) + 1) = (k : Int) + 1 := by have := HSUM.out; have := HN.out; unfold wrap64; omega
      clear hk hE hlt hx hpp hck hh hsum hoff ep1 ep3
      generalize accP (ps.take k) = all at *
      rcases checkP_cases l with hc | hc | hc
      · have ha : acc1 all l = all ++ l := by unfold acc1; rw [if_pos hc]
        obtain ⟨al, hal⟩ : ∃ al, al = all ++ l := ⟨_, rfl⟩
        rw [hc, ha, ← hal] at CA
        rw [ha, ← hal] at HNX
        clear hc ha
        have CA := Lib.hid CA
        have HAL := Lib.hid hal
        have i4 : decide ((m : Int) < ((canon m al).ls.length : Int)) = false := decide_eq_false (by rw [canon_len]; omega)
        obtain ⟨ln, hln⟩ : ∃ ln, ln = (canon m al).ls.length := ⟨_, rfl⟩
        have CL := Lib.hid fun W v u all' (h : KE w q5 q7 g v u (canon m al) all' W) => len_any W g v _ h.l
        rw [← hln] at CL i4
        have i5 : (m < ln) = False := eq_false (by rw [hln, canon_len]; omega)
        clear hln hal
        go_wp2_with (first
          | (go_at_call 20; refine (CA.out).mono ?_; rintro e wa ⟨rfl, hp⟩; obtain ⟨v1, hE1⟩ := HE.out.add hp; have HE1 := Lib.hid hE1; have a5 := hE1.hb.cell; have a7 := hE1.ab.cell; clear hp hE1)
          | (at_builtin; obtain ⟨A8, c8, wb, hr, h1, h2, h3⟩ := run_happend HE1.out.a (HHL.out _ HE1.out.b) HLL.out 22 HAL.out; refine wpList_append_is hr (by rfl) _ _ (by rfl) (by rfl) (by rfl) (by rfl) ?_; have hq7 := HE1.out.ab.same (h2.block _ HE1.out.ab.lt (box_ne HE1.out.ab HE1.out.a (by decide))); have f7 := hq7.frozen; have f8 := hq7.cell; have hE2 := HE1.out.app h1 h2 h3; have HE2 := Lib.hid hE2; have b5 := hE2.hb.cell; have b7 := hE2.ab.cell; clear hr h1 h2 h3 hE2)
          | (go_at_call 15; refine (CL.out _ _ _ _ HE2.out).mono ?_; rintro e wc ⟨rfl, hb⟩; have HE3 := Lib.hid (HE2.out.below hb); clear hb))
        go_roundw
        case rel => exact ⟨k + 1, HLT.out, next_val hwk, _, _, by rw [HNX.out]; exact HE3.out⟩
        case measure => exact measure_lt HLT.out hwk
      all_goals
        have ha : acc1 all l = all := by unfold acc1; rw [hc]; rfl
        rw [hc, ha] at CA
        rw [ha] at HNX
        clear hc ha
        have CA := Lib.hid CA
        have i4 : decide ((m : Int) < ((canon m all).ls.length : Int)) = false := decide_eq_false (by rw [canon_len]; omega)
        obtain ⟨ln, hln⟩ : ∃ ln, ln = (canon m all).ls.length := ⟨_, rfl⟩
        have CL := Lib.hid fun W v u all' (h : KE w q5 q7 g v u (canon m all) all' W) => len_any W g v _ h.l
        rw [← hln] at CL i4
        have i5 : (m < ln) = False := eq_false (by rw [hln, canon_len]; omega)
        clear hln
        go_wp2_with (first
          | (go_at_call 20; refine (CA.out).mono ?_; rintro e wa ⟨rfl, hp⟩; obtain ⟨v1, hE1⟩ := HE.out.add hp; have HE1 := Lib.hid hE1; have a5 := hE1.hb.cell; have a7 := hE1.ab.cell; clear hp hE1)
          | (go_at_call 15; refine (CL.out _ _ _ _ HE1.out).mono ?_; rintro e wc ⟨rfl, hb⟩; have HE3 := Lib.hid (HE1.out.below hb); clear hb))
        go_roundw
        case rel => exact ⟨k + 1, HLT.out, next_val hwk, _, _, by rw [HNX.out]; exact HE3.out⟩
        case measure => exact measure_lt HLT.out hwk
    · obtain rfl : k = n := by omega
      have i2 : ((k : Int) < (k : Int)) = False := by simp
      have hal : (accP (ps.take k)).length ≤ 1048576 := by
        have h1 := accP_len (ps.take k)
        rw [List.take_of_length_le (by rw [HN.out]; exact Nat.le_refl _)] at h1 ⊢
        have := HSUM.out
        omega
      clear hlt hk hE e5 e7
      generalize accP (ps.take k) = all at *
      obtain ⟨A7, c7, rfl⟩ := HE.out.a.holds.form
      obtain ⟨dr, hdr⟩ : ∃ dr, dr = all.length - m := ⟨_, rfl⟩
      obtain ⟨ln, hln⟩ : ∃ ln, ln = (canon m all).ls.length := ⟨_, rfl⟩
      have hbs : (canon m all).base = (dr : Int) + 1 := by rw [hdr]; rfl
      have hls := canon_len m all
      have hat : ∀ (j : Nat) (z : HL), (canon m all).ls[j]? = some z → all[dr + j]? = some z := fun j z hz => by rw [hdr]; exact canon_at hz
      rw [← hln] at hls
      have CL := Lib.hid fun W v u all' (h : KE w q5 q7 g v u (canon m all) all' W) => len_any W g v _ h.l
      have CBS := Lib.hid fun W v u all' (h : KE w q5 q7 g v u (canon m all) all' W) => base_any W g v _ h.l
      have CAL := Lib.hid fun W v u all' (h : KE w q5 q7 g v u (canon m all) all' W) => All_any W g v _ h.l
      have CNU := Lib.hid fun W v u all' (h : KE w q5 q7 g v u (canon m all) all' W) (i : Int) hi => Number_any W g v _ h.l i (by rw [hbs]; omega) hi
      rw [← hln] at CL CNU
      rw [hbs] at CBS CNU
      generalize canon m all = S at *
      generalize hall : all.length = al at *
      have j1 : min (m : Int) (al : Int) = (ln : Int) := by omega
      have j2 : IntKind.i64.wrap ((al : Int) - (ln : Int)) = (dr : Int) := by rw [IntWalk.i64_in _ (by omega)]; omega
      have j3 : IntKind.i64.wrap ((dr : Int) + 1) = (dr : Int) + 1 := IntWalk.i64_in _ (by omega)
      have HALL := Lib.hid hall
      have HAT := Lib.hid hat
      have HLN := Lib.hid hln
      have HSZ : Hid (al ≤ 1048576 ∧ dr + ln = al ∧ ln ≤ 4096) := Lib.hid ⟨hal, by omega, by have := HM.out; omega⟩
      have J := Lib.hid (HE.out.below (Below.refl _ wr).drew)
      have hT : wr.drew.cell? ⟨q5, 0, none⟩ = some (.pointer (some ⟨g, 0, none⟩)) ∧ wr.drew.cell? ⟨q7, 0, none⟩ = some (.slice A7 al c7) := ⟨J.out.hb.cell, J.out.ab.cell⟩
      clear hal hdr hls hbs hln hat hall
      go_wp2_with fail
      go_region_held3 (fun W => W.cell? ⟨q5, 0, none⟩ = some (.pointer (some ⟨g, 0, none⟩)) ∧ W.cell? ⟨q7, 0, none⟩ = some (.slice A7 al c7)) (first | with_reducible exact hT | fail) (first
        | (go_at_call 15; refine (CL.out _ _ _ _ J.out).mono ?_; rintro e w5 ⟨rfl, hb⟩; have J := Lib.hid (J.out.below hb); have hT : w5.cell? ⟨q5, 0, none⟩ = some (.pointer (some ⟨g, 0, none⟩)) ∧ w5.cell? ⟨q7, 0, none⟩ = some (.slice A7 al c7) := ⟨J.out.hb.cell, J.out.ab.cell⟩; clear hb)
        | (go_at_call 16; refine (CBS.out _ _ _ _ J.out).mono ?_; rintro e w6 ⟨rfl, hb⟩; have J := Lib.hid (J.out.below hb); have hT : w6.cell? ⟨q5, 0, none⟩ = some (.pointer (some ⟨g, 0, none⟩)) ∧ w6.cell? ⟨q7, 0, none⟩ = some (.slice A7 al c7) := ⟨J.out.hb.cell, J.out.ab.cell⟩; clear hb))
      all_goals
        go_wp2_with (go_at_call 28; refine (CAL.out _ _ _ _ J.out).mono ?_; rintro e w8 ⟨bi, vi, rfl, hi, hb, hk⟩; have HI := Lib.hid hi; have J8 := Lib.hid (J.out.below hb); clear hi hb hk)
        refine (wpIn_wide (n := 8)).1 ?_
        refine range_law2f (R := ItR S.ls 0 false) rfl (enters_of Try.func73 (by kernel_rfl) rfl) (from_iter w8 bi vi S.ls 0 false HI.out (by have := HLN.out; have := HSZ.out; omega)) (HI.out.lt)
          (fun _ Wz => KE w q5 q7 g v (.slice A7 al c7) S all Wz) (fun _ _ => False) (fun _ _ _ h1 ht => J8.out.far h1 ht) (fun _ _ _ h _ => h) J8.out
          (fun _ y V => V.alloc (.cells (aggOf y) 69)) (fun _ _ V => (Below.refl _ _).alloc (Nat.le_refl _) _) (fun x _ V t => (t.setIfInBounds 10 x).setIfInBounds 11 (.pointer (some ⟨V.heap.size, 0, none⟩))) ?_ ?_ ?_ (fun _ _ h => h.elim)
        · intro l0 k x y V K1 hr hK
          obtain ⟨j, z, hj, rfl, hz, rfl⟩ := hr
          gi_wp2_with fail
          exact hK
        · intro l0 k x y V Wr hk hr hI hlt hnew hsz hbm
          obtain ⟨j, z, hj, rfl, hz, rfl⟩ := hr
          have hbox : Wr.heap[V.heap.size]? = some (.cells #[.string z.1, .int .i64 z.2] 69 (0, 0)) := (hnew _ (Nat.le_refl _)).trans (alloc_new _ _)
          have HX := Lib.hid hbox
          have HE := Lib.hid hI
          have HZ := Lib.hid hz
          have HZA := Lib.hid (HAT.out j z hz)
          have HLT := Lib.hid hlt
          have HSW : Hid (Wr.heap.size = V.heap.size + 1) := Lib.hid (by rw [hsz]; simp)
          clear hbox hI hz hlt hsz hbm hnew hk hj
          simp only [List.setIfInBounds_toArray, List.set_cons_zero, List.set_cons_succ]
          gi_upto_region 20 with (fail)
          have e5 := HE.out.hb.cell
          have hjl : j < S.ls.length := (List.getElem?_eq_some_iff.1 HZ.out).1
          have hze : S.ls[j] = z := (List.getElem?_eq_some_iff.1 HZ.out).2
          have HJL : Hid (j < ln) := Lib.hid (by rw [HLN.out]; exact hjl)
          have j4 : IntKind.i64.wrap ((dr : Int) + 1 + (j : Int)) = (dr : Int) + 1 + (j : Int) := IntWalk.i64_in _ (by have := HSZ.out; have := HJL.out; omega)
          have CZ : Hid (∀ W v u all', KE w q5 q7 g v u S all' W → Calls Try.prog 29 #[.pointer (some ⟨g, 0, none⟩), .int .i64 ((dr : Int) + 1 + (j : Int))] W fun e W' => e = .returned (.tuple #[.agg #[.string z.1, .int .i64 z.2], .bool true]) ∧ Below W.heap.size W W') := Lib.hid fun W v u all' h => by
            have := CNU.out W v u all' h ((dr : Int) + 1 + (j : Int)) (by have := HSZ.out; have := HJL.out; omega)
            rwa [show (dr : Int) + 1 + (j : Int) - ((dr : Int) + 1) = (j : Int) by omega, lineAt_some hjl, plc_iff.2 (by have := HJL.out; omega), hze] at this
          clear hjl hze
          gi_cut [12, 13] from 104 (fun t12 t13 wx => ∃ q12, t12 = .pointer (some ⟨q12, 0, none⟩) ∧ t13 = .bool true ∧ Wr.heap.size ≤ q12 ∧ KE w q5 q7 g v (.slice A7 al c7) S all wx ∧ wx.heap[q12]? = some (.cells #[.string z.1, .int .i64 z.2] 69 (0, 0)) ∧ Below Wr.heap.size Wr wx)
          case first =>
            have B := Lib.hid ((Below.refl Wr.heap.size Wr).drew)
            have J := Lib.hid (HE.out.below B.out)
            refine wpIn_region_held (fun W => W.cell? ⟨q5, 0, none⟩ = some (.pointer (some ⟨g, 0, none⟩))) (by kernel_rfl) (fun ⟨_, _, h⟩ => h) (by kernel_rfl) e5 (fun hHeld => ?_)
            clear e5
            generalize Wr.drew = Wd at *
            refine wpAnyH_take (i := 0) (v := ?_) rfl (by kernel_rfl) (by kernel_rfl) (by kernel_rfl) (fun _ _ _ h => h) (Or.inl ⟨by rfl, ?_⟩) (by assumption) ?_
            rotate_left
            · intro w' hSw
              have s0 := hSw
              go_simp
              all_goals (with_reducible rfl)
            try simp only [List.getElem_toArray, List.getElem_cons_zero, List.getElem_cons_succ, Act.put, List.setIfInBounds_toArray, List.set_cons_zero, List.set_cons_succ]
            refine wpAnyH_take (i := 1) (v := ?_) rfl (by kernel_rfl) (by kernel_rfl) (by kernel_rfl) (fun _ _ _ h => h) (Or.inl ⟨by rfl, ?_⟩) (by assumption) ?_
            rotate_left
            · intro w' hSw
              have s0 := hSw
              go_simp
              all_goals (with_reducible rfl)
            try simp only [List.getElem_toArray, List.getElem_cons_zero, List.getElem_cons_succ, Act.put, List.setIfInBounds_toArray, List.set_cons_zero, List.set_cons_succ]
            refine wpAnyH_take (i := 3) (v := ?_) rfl (by kernel_rfl) (by kernel_rfl) (by kernel_rfl) (fun _ _ _ h => h) (Or.inl ⟨by rfl, ?_⟩) (by assumption) ?_
            rotate_left
            · intro w' hSw
              have s0 := hSw
              go_simp
              all_goals (with_reducible rfl)
            try simp only [List.getElem_toArray, List.getElem_cons_zero, List.getElem_cons_succ, Act.put, List.setIfInBounds_toArray, List.set_cons_zero, List.set_cons_succ]
            refine wpAnyH_ready (rs := [2, 9]) (by kernel_rfl) (by simp) ?_
            refine AllReadyH.cons rfl (fun K hK => ?_) (AllReadyH.cons rfl (fun K hK => ?_) AllReadyH.nil)
            · skip
              go_simp
              go_at_call 16
              refine (CBS.out _ _ _ _ J.out).mono ?_
              rintro e wb ⟨rfl, hb⟩
              replace B := Lib.hid (B.out.trans (hb.mono B.out.size))
              replace J := Lib.hid (J.out.below hb)
              clear hb
              have e5 := J.out.hb.cell
              go_wp2_with fail
              refine hK.out _ _ e5 (fun hHeld => ?_)
              clear hK
              try simp only [List.getElem_toArray, List.getElem_cons_zero, List.getElem_cons_succ, Act.put, List.setIfInBounds_toArray, List.set_cons_zero, List.set_cons_succ]
              refine wpAnyH_take (i := 4) (v := ?_) rfl (by kernel_rfl) (by kernel_rfl) (by kernel_rfl) (fun _ _ _ h => h) (Or.inl ⟨by rfl, ?_⟩) (by assumption) ?_
              rotate_left
              · intro w' hSw
                have s0 := hSw
                go_simp
                all_goals (with_reducible rfl)
              try simp only [List.getElem_toArray, List.getElem_cons_zero, List.getElem_cons_succ, Act.put, List.setIfInBounds_toArray, List.set_cons_zero, List.set_cons_succ]
              refine wpAnyH_ready (rs := [5, 9]) (by kernel_rfl) (by simp) ?_
              refine AllReadyH.cons rfl (fun K hK => ?_) (AllReadyH.cons rfl (fun K hK => ?_) AllReadyH.nil)
              · skip
                go_simp
                go_at_call 29
                refine (CZ.out _ _ _ _ J.out).mono ?_
                rintro e wn ⟨rfl, hb⟩
                replace B := Lib.hid (B.out.trans (hb.mono B.out.size))
                replace J := Lib.hid (J.out.below hb)
                clear hb
                have e5 := J.out.hb.cell
                go_wp2_with fail
                refine hK.out _ _ e5 (fun hHeld => ?_)
                clear hK
                try simp only [List.getElem_toArray, List.getElem_cons_zero, List.getElem_cons_succ, Act.put, List.setIfInBounds_toArray, List.set_cons_zero, List.set_cons_succ]
                refine wpAnyH_take (i := 6) (v := ?_) rfl (by kernel_rfl) (by kernel_rfl) (by kernel_rfl) (fun _ _ _ h => h) (Or.inl ⟨by rfl, ?_⟩) (by assumption) ?_
                rotate_left
                · intro w' hSw
                  have s0 := hSw
                  go_simp
                  all_goals (with_reducible rfl)
                try simp only [List.getElem_toArray, List.getElem_cons_zero, List.getElem_cons_succ, Act.put, List.setIfInBounds_toArray, List.set_cons_zero, List.set_cons_succ]
                refine wpAnyH_take (i := 7) (v := ?_) rfl (by kernel_rfl) (by kernel_rfl) (by kernel_rfl) (fun _ _ _ h => h) (Or.inl ⟨by rfl, ?_⟩) (by assumption) ?_
                rotate_left
                · intro w' hSw
                  have s0 := hSw
                  go_simp
                  all_goals (with_reducible rfl)
                try simp only [List.getElem_toArray, List.getElem_cons_zero, List.getElem_cons_succ, Act.put, List.setIfInBounds_toArray, List.set_cons_zero, List.set_cons_succ]
                refine wpAnyH_take (i := 8) (v := ?_) rfl (by kernel_rfl) (by kernel_rfl) (by kernel_rfl) (fun _ _ _ h => h) (Or.inl ⟨by rfl, ?_⟩) (by assumption) ?_
                rotate_left
                · intro w' hSw
                  have s0 := hSw
                  go_simp
                  all_goals (with_reducible rfl)
                try simp only [List.getElem_toArray, List.getElem_cons_zero, List.getElem_cons_succ, Act.put, List.setIfInBounds_toArray, List.set_cons_zero, List.set_cons_succ]
                refine wpAnyH_ready (rs := [9]) (by kernel_rfl) (by simp) ?_
                refine AllReadyH.cons rfl (fun K hK => ?_) AllReadyH.nil
                go_simp
                refine hK.out _ _ (J.out.below ((Below.refl _ _).alloc (Nat.le_refl _) _)).hb.cell (fun hHeld => ?_)
                clear hK
                try simp only [List.getElem_toArray, List.getElem_cons_zero, List.getElem_cons_succ, Act.put, List.setIfInBounds_toArray, List.set_cons_zero, List.set_cons_succ]
                have R := Lib.hid (alloc_new wn (.cells #[.string ⟨#[]⟩, .int .i64 0] 69))
                have B12 := B.out.size
                replace B := Lib.hid (B.out.alloc B.out.size (.cells #[.string ⟨#[]⟩, .int .i64 0] 69))
                replace J := Lib.hid (J.out.below ((Below.refl _ wn).alloc (Nat.le_refl _) (.cells #[.string ⟨#[]⟩, .int .i64 0] 69)))
                obtain ⟨q12, hq⟩ : ∃ q12, q12 = wn.heap.size := ⟨_, rfl⟩
                rw [← hq] at R B12 ⊢
                clear hq
                generalize wn.alloc (.cells #[.string ⟨#[]⟩, .int .i64 0] 69) = WA at *
                refine wpAnyH_ready (rs := [10]) (by kernel_rfl) (by simp) ?_
                refine AllReadyH.cons rfl (fun K hK => ?_) AllReadyH.nil
                have b0 := cell_of_row _ q12 0 _ _ _ R.out
                have b1 := cell_of_row _ q12 1 _ _ _ R.out
                have f0 := frozen_of_row _ q12 0 _ _ R.out
                have f1 := frozen_of_row _ q12 1 _ _ R.out
                go_simp
                have B2 := Lib.hid ((B.out.setCell (p := ⟨q12, 0, none⟩) B12 (.string z.1)).setCell (p := ⟨q12, 1, none⟩) B12 (.int .i64 z.2))
                have R2 := Lib.hid (heap_setCell_same _ q12 1 _ _ (.int .i64 z.2) (heap_setCell_same _ q12 0 _ _ (.string z.1) R.out))
                refine hK.out _ _ (HE.out.below B2.out).hb.cell (fun hHeld => ?_)
                clear hK
                try simp only [List.getElem_toArray, List.getElem_cons_zero, List.getElem_cons_succ, Act.put, List.setIfInBounds_toArray, List.set_cons_zero, List.set_cons_succ]
                refine wpAnyH_take (i := 11) (v := ?_) rfl (by kernel_rfl) (by kernel_rfl) (by kernel_rfl) (fun _ _ _ h => h) (Or.inl ⟨by rfl, ?_⟩) (by assumption) ?_
                rotate_left
                · intro w' hSw
                  have s0 := hSw
                  go_simp
                  all_goals (with_reducible rfl)
                try simp only [List.getElem_toArray, List.getElem_cons_zero, List.getElem_cons_succ, Act.put, List.setIfInBounds_toArray, List.set_cons_zero, List.set_cons_succ]
                refine wpAnyH_done (by kernel_rfl) ?_ _
                gi_wp2
                gi_meet
                case rel => exact ⟨q12, rfl, rfl, B12, HE.out.below B2.out, R2.out, B2.out⟩
              · skip
                go_simp
                refine hK.out _ _ (J.out.below ((Below.refl _ _).alloc (Nat.le_refl _) _)).hb.cell (fun hHeld => ?_)
                clear hK
                try simp only [List.getElem_toArray, List.getElem_cons_zero, List.getElem_cons_succ, Act.put, List.setIfInBounds_toArray, List.set_cons_zero, List.set_cons_succ]
                have R := Lib.hid (alloc_new wb (.cells #[.string ⟨#[]⟩, .int .i64 0] 69))
                have B12 := B.out.size
                replace B := Lib.hid (B.out.alloc B.out.size (.cells #[.string ⟨#[]⟩, .int .i64 0] 69))
                replace J := Lib.hid (J.out.below ((Below.refl _ wb).alloc (Nat.le_refl _) (.cells #[.string ⟨#[]⟩, .int .i64 0] 69)))
                obtain ⟨q12, hq⟩ : ∃ q12, q12 = wb.heap.size := ⟨_, rfl⟩
                rw [← hq] at R B12 ⊢
                clear hq
                generalize wb.alloc (.cells #[.string ⟨#[]⟩, .int .i64 0] 69) = WA at *
                refine wpAnyH_ready (rs := [5]) (by kernel_rfl) (by simp) ?_
                refine AllReadyH.cons rfl (fun K hK => ?_) AllReadyH.nil
                go_simp
                go_at_call 29
                refine (CZ.out _ _ _ _ J.out).mono ?_
                rintro e wn ⟨rfl, hb⟩
                replace R := Lib.hid ((hb.block q12 (heap_lt R.out)).trans R.out)
                replace B := Lib.hid (B.out.trans (hb.mono B.out.size))
                replace J := Lib.hid (J.out.below hb)
                clear hb
                have e5 := J.out.hb.cell
                go_wp2_with fail
                refine hK.out _ _ e5 (fun hHeld => ?_)
                clear hK
                try simp only [List.getElem_toArray, List.getElem_cons_zero, List.getElem_cons_succ, Act.put, List.setIfInBounds_toArray, List.set_cons_zero, List.set_cons_succ]
                refine wpAnyH_take (i := 6) (v := ?_) rfl (by kernel_rfl) (by kernel_rfl) (by kernel_rfl) (fun _ _ _ h => h) (Or.inl ⟨by rfl, ?_⟩) (by assumption) ?_
                rotate_left
                · intro w' hSw
                  have s0 := hSw
                  go_simp
                  all_goals (with_reducible rfl)
                try simp only [List.getElem_toArray, List.getElem_cons_zero, List.getElem_cons_succ, Act.put, List.setIfInBounds_toArray, List.set_cons_zero, List.set_cons_succ]
                refine wpAnyH_take (i := 7) (v := ?_) rfl (by kernel_rfl) (by kernel_rfl) (by kernel_rfl) (fun _ _ _ h => h) (Or.inl ⟨by rfl, ?_⟩) (by assumption) ?_
                rotate_left
                · intro w' hSw
                  have s0 := hSw
                  go_simp
                  all_goals (with_reducible rfl)
                try simp only [List.getElem_toArray, List.getElem_cons_zero, List.getElem_cons_succ, Act.put, List.setIfInBounds_toArray, List.set_cons_zero, List.set_cons_succ]
                refine wpAnyH_take (i := 8) (v := ?_) rfl (by kernel_rfl) (by kernel_rfl) (by kernel_rfl) (fun _ _ _ h => h) (Or.inl ⟨by rfl, ?_⟩) (by assumption) ?_
                rotate_left
                · intro w' hSw
                  have s0 := hSw
                  go_simp
                  all_goals (with_reducible rfl)
                try simp only [List.getElem_toArray, List.getElem_cons_zero, List.getElem_cons_succ, Act.put, List.setIfInBounds_toArray, List.set_cons_zero, List.set_cons_succ]
                refine wpAnyH_ready (rs := [10]) (by kernel_rfl) (by simp) ?_
                refine AllReadyH.cons rfl (fun K hK => ?_) AllReadyH.nil
                have b0 := cell_of_row _ q12 0 _ _ _ R.out
                have b1 := cell_of_row _ q12 1 _ _ _ R.out
                have f0 := frozen_of_row _ q12 0 _ _ R.out
                have f1 := frozen_of_row _ q12 1 _ _ R.out
                go_simp
                have B2 := Lib.hid ((B.out.setCell (p := ⟨q12, 0, none⟩) B12 (.string z.1)).setCell (p := ⟨q12, 1, none⟩) B12 (.int .i64 z.2))
                have R2 := Lib.hid (heap_setCell_same _ q12 1 _ _ (.int .i64 z.2) (heap_setCell_same _ q12 0 _ _ (.string z.1) R.out))
                refine hK.out _ _ (HE.out.below B2.out).hb.cell (fun hHeld => ?_)
                clear hK
                try simp only [List.getElem_toArray, List.getElem_cons_zero, List.getElem_cons_succ, Act.put, List.setIfInBounds_toArray, List.set_cons_zero, List.set_cons_succ]
                refine wpAnyH_take (i := 11) (v := ?_) rfl (by kernel_rfl) (by kernel_rfl) (by kernel_rfl) (fun _ _ _ h => h) (Or.inl ⟨by rfl, ?_⟩) (by assumption) ?_
                rotate_left
                · intro w' hSw
                  have s0 := hSw
                  go_simp
                  all_goals (with_reducible rfl)
                try simp only [List.getElem_toArray, List.getElem_cons_zero, List.getElem_cons_succ, Act.put, List.setIfInBounds_toArray, List.set_cons_zero, List.set_cons_succ]
                refine wpAnyH_done (by kernel_rfl) ?_ _
                gi_wp2
                gi_meet
                case rel => exact ⟨q12, rfl, rfl, B12, HE.out.below B2.out, R2.out, B2.out⟩
            · skip
              go_simp
              refine hK.out _ _ (J.out.below ((Below.refl _ _).alloc (Nat.le_refl _) _)).hb.cell (fun hHeld => ?_)
              clear hK
              try simp only [List.getElem_toArray, List.getElem_cons_zero, List.getElem_cons_succ, Act.put, List.setIfInBounds_toArray, List.set_cons_zero, List.set_cons_succ]
              have R := Lib.hid (alloc_new Wd (.cells #[.string ⟨#[]⟩, .int .i64 0] 69))
              have B12 := B.out.size
              replace B := Lib.hid (B.out.alloc B.out.size (.cells #[.string ⟨#[]⟩, .int .i64 0] 69))
              replace J := Lib.hid (J.out.below ((Below.refl _ Wd).alloc (Nat.le_refl _) (.cells #[.string ⟨#[]⟩, .int .i64 0] 69)))
              obtain ⟨q12, hq⟩ : ∃ q12, q12 = Wd.heap.size := ⟨_, rfl⟩
              rw [← hq] at R B12 ⊢
              clear hq
              generalize Wd.alloc (.cells #[.string ⟨#[]⟩, .int .i64 0] 69) = WA at *
              refine wpAnyH_ready (rs := [2]) (by kernel_rfl) (by simp) ?_
              refine AllReadyH.cons rfl (fun K hK => ?_) AllReadyH.nil
              go_simp
              go_at_call 16
              refine (CBS.out _ _ _ _ J.out).mono ?_
              rintro e wb ⟨rfl, hb⟩
              replace R := Lib.hid ((hb.block q12 (heap_lt R.out)).trans R.out)
              replace B := Lib.hid (B.out.trans (hb.mono B.out.size))
              replace J := Lib.hid (J.out.below hb)
              clear hb
              have e5 := J.out.hb.cell
              go_wp2_with fail
              refine hK.out _ _ e5 (fun hHeld => ?_)
              clear hK
              try simp only [List.getElem_toArray, List.getElem_cons_zero, List.getElem_cons_succ, Act.put, List.setIfInBounds_toArray, List.set_cons_zero, List.set_cons_succ]
              refine wpAnyH_take (i := 4) (v := ?_) rfl (by kernel_rfl) (by kernel_rfl) (by kernel_rfl) (fun _ _ _ h => h) (Or.inl ⟨by rfl, ?_⟩) (by assumption) ?_
              rotate_left
              · intro w' hSw
                have s0 := hSw
                go_simp
                all_goals (with_reducible rfl)
              try simp only [List.getElem_toArray, List.getElem_cons_zero, List.getElem_cons_succ, Act.put, List.setIfInBounds_toArray, List.set_cons_zero, List.set_cons_succ]
              refine wpAnyH_ready (rs := [5]) (by kernel_rfl) (by simp) ?_
              refine AllReadyH.cons rfl (fun K hK => ?_) AllReadyH.nil
              go_simp
              go_at_call 29
              refine (CZ.out _ _ _ _ J.out).mono ?_
              rintro e wn ⟨rfl, hb⟩
              replace R := Lib.hid ((hb.block q12 (heap_lt R.out)).trans R.out)
              replace B := Lib.hid (B.out.trans (hb.mono B.out.size))
              replace J := Lib.hid (J.out.below hb)
              clear hb
              have e5 := J.out.hb.cell
              go_wp2_with fail
              refine hK.out _ _ e5 (fun hHeld => ?_)
              clear hK
              try simp only [List.getElem_toArray, List.getElem_cons_zero, List.getElem_cons_succ, Act.put, List.setIfInBounds_toArray, List.set_cons_zero, List.set_cons_succ]
              refine wpAnyH_take (i := 6) (v := ?_) rfl (by kernel_rfl) (by kernel_rfl) (by kernel_rfl) (fun _ _ _ h => h) (Or.inl ⟨by rfl, ?_⟩) (by assumption) ?_
              rotate_left
              · intro w' hSw
                have s0 := hSw
                go_simp
                all_goals (with_reducible rfl)
              try simp only [List.getElem_toArray, List.getElem_cons_zero, List.getElem_cons_succ, Act.put, List.setIfInBounds_toArray, List.set_cons_zero, List.set_cons_succ]
              refine wpAnyH_take (i := 7) (v := ?_) rfl (by kernel_rfl) (by kernel_rfl) (by kernel_rfl) (fun _ _ _ h => h) (Or.inl ⟨by rfl, ?_⟩) (by assumption) ?_
              rotate_left
              · intro w' hSw
                have s0 := hSw
                go_simp
                all_goals (with_reducible rfl)
              try simp only [List.getElem_toArray, List.getElem_cons_zero, List.getElem_cons_succ, Act.put, List.setIfInBounds_toArray, List.set_cons_zero, List.set_cons_succ]
              refine wpAnyH_take (i := 8) (v := ?_) rfl (by kernel_rfl) (by kernel_rfl) (by kernel_rfl) (fun _ _ _ h => h) (Or.inl ⟨by rfl, ?_⟩) (by assumption) ?_
              rotate_left
              · intro w' hSw
                have s0 := hSw
                go_simp
                all_goals (with_reducible rfl)
              try simp only [List.getElem_toArray, List.getElem_cons_zero, List.getElem_cons_succ, Act.put, List.setIfInBounds_toArray, List.set_cons_zero, List.set_cons_succ]
              refine wpAnyH_ready (rs := [10]) (by kernel_rfl) (by simp) ?_
              refine AllReadyH.cons rfl (fun K hK => ?_) AllReadyH.nil
              have b0 := cell_of_row _ q12 0 _ _ _ R.out
              have b1 := cell_of_row _ q12 1 _ _ _ R.out
              have f0 := frozen_of_row _ q12 0 _ _ R.out
              have f1 := frozen_of_row _ q12 1 _ _ R.out
              go_simp
              have B2 := Lib.hid ((B.out.setCell (p := ⟨q12, 0, none⟩) B12 (.string z.1)).setCell (p := ⟨q12, 1, none⟩) B12 (.int .i64 z.2))
              have R2 := Lib.hid (heap_setCell_same _ q12 1 _ _ (.int .i64 z.2) (heap_setCell_same _ q12 0 _ _ (.string z.1) R.out))
              refine hK.out _ _ (HE.out.below B2.out).hb.cell (fun hHeld => ?_)
              clear hK
              try simp only [List.getElem_toArray, List.getElem_cons_zero, List.getElem_cons_succ, Act.put, List.setIfInBounds_toArray, List.set_cons_zero, List.set_cons_succ]
              refine wpAnyH_take (i := 11) (v := ?_) rfl (by kernel_rfl) (by kernel_rfl) (by kernel_rfl) (fun _ _ _ h => h) (Or.inl ⟨by rfl, ?_⟩) (by assumption) ?_
              rotate_left
              · intro w' hSw
                have s0 := hSw
                go_simp
                all_goals (with_reducible rfl)
              try simp only [List.getElem_toArray, List.getElem_cons_zero, List.getElem_cons_succ, Act.put, List.setIfInBounds_toArray, List.set_cons_zero, List.set_cons_succ]
              refine wpAnyH_done (by kernel_rfl) ?_ _
              gi_wp2
              gi_meet
              case rel => exact ⟨q12, rfl, rfl, B12, HE.out.below B2.out, R2.out, B2.out⟩
          case rest =>
            obtain ⟨q12, rfl, rfl, hq, hE2, hr12, hb2⟩ := hcut
            have HX2 := Lib.hid ((hb2.block _ (heap_lt HX.out)).trans HX.out)
            have HR := Lib.hid hr12
            have HB2 := Lib.hid hb2
            replace HE := Lib.hid hE2
            clear CZ hE2 hr12 hb2 e5
            obtain ⟨b7, off7, rfl, hb7, c0, c1⟩ := HE.out.a.holds.cell HZA.out
            have HC := Lib.hid (And.intro c0 c1)
            clear c0 c1
            have j5 : IntKind.i64.wrap ((dr : Int) + (j : Int)) = (dr : Int) + (j : Int) := by have := HSZ.out; have := HJL.out; rw [IntWalk.i64_in _ (by omega)]
            have j6 : (dr : Int) + (j : Int) < (al : Int) := by have := HSZ.out; have := HJL.out; omega
            have j7 : ((dr : Int) + (j : Int)).toNat = dr + j := by omega
            have j8 : (0 : Int) ≤ (dr : Int) + (j : Int) := by omega
            have HS : Hid (∀ W, Below wc.heap.size wc W → (fun W => W.cell? ⟨q5, 0, none⟩ = some (.pointer (some ⟨g, 0, none⟩)) ∧ W.cell? ⟨q7, 0, none⟩ = some (.slice (some ⟨b7, off7, none⟩) al c7) ∧ W.cell? ⟨V.heap.size, 0, none⟩ = some (.string z.1) ∧ W.cell? ⟨V.heap.size, 1, none⟩ = some (.int .i64 z.2) ∧ W.cell? ⟨q12, 0, none⟩ = some (.string z.1) ∧ W.cell? ⟨q12, 1, none⟩ = some (.int .i64 z.2) ∧ W.cell? ⟨b7, off7 + (dr + j) * 2, none⟩ = some (.string z.1) ∧ W.cell? ⟨b7, off7 + (dr + j) * 2 + 1, none⟩ = some (.int .i64 z.2)) W) := Lib.hid fun W hb => ⟨(HE.out.below hb).hb.cell, (HE.out.below hb).ab.cell, cell_of_row W _ 0 _ _ _ ((hb.block _ (heap_lt HX2.out)).trans HX2.out), cell_of_row W _ 1 _ _ _ ((hb.block _ (heap_lt HX2.out)).trans HX2.out), cell_of_row W _ 0 _ _ _ ((hb.block _ (heap_lt HR.out)).trans HR.out), cell_of_row W _ 1 _ _ _ ((hb.block _ (heap_lt HR.out)).trans HR.out), (hb.cell (p := ⟨b7, off7 + (dr + j) * 2, none⟩) hb7).trans HC.out.1, (hb.cell (p := ⟨b7, off7 + (dr + j) * 2 + 1, none⟩) hb7).trans HC.out.2⟩
            gi_upto_region 21 with (fail)
            have B := Lib.hid ((Below.refl wc.heap.size wc).drew)
            refine wpIn_region_held (fun W => W.cell? ⟨q5, 0, none⟩ = some (.pointer (some ⟨g, 0, none⟩)) ∧ W.cell? ⟨q7, 0, none⟩ = some (.slice (some ⟨b7, off7, none⟩) al c7) ∧ W.cell? ⟨V.heap.size, 0, none⟩ = some (.string z.1) ∧ W.cell? ⟨V.heap.size, 1, none⟩ = some (.int .i64 z.2) ∧ W.cell? ⟨q12, 0, none⟩ = some (.string z.1) ∧ W.cell? ⟨q12, 1, none⟩ = some (.int .i64 z.2) ∧ W.cell? ⟨b7, off7 + (dr + j) * 2, none⟩ = some (.string z.1) ∧ W.cell? ⟨b7, off7 + (dr + j) * 2 + 1, none⟩ = some (.int .i64 z.2)) (by kernel_rfl) (fun ⟨_, _, h⟩ => h) (by kernel_rfl) (HS.out _ B.out) (fun hHeld => ?_)
            generalize wc.drew = Wd at *
            refine wpAnyH_take (i := 0) (v := ?_) rfl (by kernel_rfl) (by kernel_rfl) (by kernel_rfl) (fun _ _ _ h => h) (Or.inl ⟨by rfl, ?_⟩) (by assumption) ?_
            rotate_left
            · intro w' hSw
              obtain ⟨s0, s1, s2, s3, s4, s5, s6, s7⟩ := hSw
              go_simp
              all_goals (with_reducible rfl)
            try simp only [List.getElem_toArray, List.getElem_cons_zero, List.getElem_cons_succ, Act.put, List.setIfInBounds_toArray, List.set_cons_zero, List.set_cons_succ]
            refine wpAnyH_take (i := 1) (v := ?_) rfl (by kernel_rfl) (by kernel_rfl) (by kernel_rfl) (fun _ _ _ h => h) (Or.inl ⟨by rfl, ?_⟩) (by assumption) ?_
            rotate_left
            · intro w' hSw
              obtain ⟨s0, s1, s2, s3, s4, s5, s6, s7⟩ := hSw
              go_simp
              all_goals (with_reducible rfl)
            try simp only [List.getElem_toArray, List.getElem_cons_zero, List.getElem_cons_succ, Act.put, List.setIfInBounds_toArray, List.set_cons_zero, List.set_cons_succ]
            refine wpAnyH_take (i := 2) (v := ?_) rfl (by kernel_rfl) (by kernel_rfl) (by kernel_rfl) (fun _ _ _ h => h) (Or.inl ⟨by rfl, ?_⟩) (by assumption) ?_
            rotate_left
            · intro w' hSw
              obtain ⟨s0, s1, s2, s3, s4, s5, s6, s7⟩ := hSw
              go_simp
              all_goals (with_reducible rfl)
            try simp only [List.getElem_toArray, List.getElem_cons_zero, List.getElem_cons_succ, Act.put, List.setIfInBounds_toArray, List.set_cons_zero, List.set_cons_succ]
            refine wpAnyH_take (i := 3) (v := ?_) rfl (by kernel_rfl) (by kernel_rfl) (by kernel_rfl) (fun _ _ _ h => h) (Or.inl ⟨by rfl, ?_⟩) (by assumption) ?_
            rotate_left
            · intro w' hSw
              obtain ⟨s0, s1, s2, s3, s4, s5, s6, s7⟩ := hSw
              go_simp
              all_goals (with_reducible rfl)
            try simp only [List.getElem_toArray, List.getElem_cons_zero, List.getElem_cons_succ, Act.put, List.setIfInBounds_toArray, List.set_cons_zero, List.set_cons_succ]
            refine wpAnyH_take (i := 4) (v := ?_) rfl (by kernel_rfl) (by kernel_rfl) (by kernel_rfl) (fun _ _ _ h => h) (Or.inl ⟨by rfl, ?_⟩) (by assumption) ?_
            rotate_left
            · intro w' hSw
              obtain ⟨s0, s1, s2, s3, s4, s5, s6, s7⟩ := hSw
              go_simp
              all_goals (with_reducible rfl)
            try simp only [List.getElem_toArray, List.getElem_cons_zero, List.getElem_cons_succ, Act.put, List.setIfInBounds_toArray, List.set_cons_zero, List.set_cons_succ]
            refine wpAnyH_take (i := 7) (v := ?_) rfl (by kernel_rfl) (by kernel_rfl) (by kernel_rfl) (fun _ _ _ h => h) (Or.inl ⟨by rfl, ?_⟩) (by assumption) ?_
            rotate_left
            · intro w' hSw
              obtain ⟨s0, s1, s2, s3, s4, s5, s6, s7⟩ := hSw
              go_simp
              all_goals (with_reducible rfl)
            try simp only [List.getElem_toArray, List.getElem_cons_zero, List.getElem_cons_succ, Act.put, List.setIfInBounds_toArray, List.set_cons_zero, List.set_cons_succ]
            refine wpAnyH_ready (rs := [5]) (by kernel_rfl) (by simp) ?_
            refine AllReadyH.cons rfl (fun K hK => ?_) AllReadyH.nil
            go_simp
            go_at_call 15
            refine (CL.out _ _ _ _ (HE.out.below B.out)).mono ?_
            rintro e wl ⟨rfl, hb⟩
            replace B := Lib.hid (B.out.trans (hb.mono B.out.size))
            clear hb
            go_wp2_with fail
            refine hK.out _ _ (HS.out _ B.out) (fun hHeld => ?_)
            clear hK
            try simp only [List.getElem_toArray, List.getElem_cons_zero, List.getElem_cons_succ, Act.put, List.setIfInBounds_toArray, List.set_cons_zero, List.set_cons_succ]
            refine wpAnyH_take (i := 6) (v := ?_) rfl (by kernel_rfl) (by kernel_rfl) (by kernel_rfl) (fun _ _ _ h => h) (Or.inl ⟨by rfl, ?_⟩) (by assumption) ?_
            rotate_left
            · intro w' hSw
              obtain ⟨s0, s1, s2, s3, s4, s5, s6, s7⟩ := hSw
              go_simp
              all_goals (with_reducible rfl)
            try simp only [List.getElem_toArray, List.getElem_cons_zero, List.getElem_cons_succ, Act.put, List.setIfInBounds_toArray, List.set_cons_zero, List.set_cons_succ]
            refine wpAnyH_take (i := 8) (v := ?_) rfl (by kernel_rfl) (by kernel_rfl) (by kernel_rfl) (fun _ _ _ h => h) (Or.inl ⟨by rfl, ?_⟩) (by assumption) ?_
            rotate_left
            · intro w' hSw
              obtain ⟨s0, s1, s2, s3, s4, s5, s6, s7⟩ := hSw
              go_simp
              all_goals (with_reducible rfl)
            try simp only [List.getElem_toArray, List.getElem_cons_zero, List.getElem_cons_succ, Act.put, List.setIfInBounds_toArray, List.set_cons_zero, List.set_cons_succ]
            refine wpAnyH_take (i := 9) (v := ?_) rfl (by kernel_rfl) (by kernel_rfl) (by kernel_rfl) (fun _ _ _ h => h) (Or.inl ⟨by rfl, ?_⟩) (by assumption) ?_
            rotate_left
            · intro w' hSw
              obtain ⟨s0, s1, s2, s3, s4, s5, s6, s7⟩ := hSw
              go_simp
              all_goals (with_reducible rfl)
            try simp only [List.getElem_toArray, List.getElem_cons_zero, List.getElem_cons_succ, Act.put, List.setIfInBounds_toArray, List.set_cons_zero, List.set_cons_succ]
            refine wpAnyH_take (i := 10) (v := ?_) rfl (by kernel_rfl) (by kernel_rfl) (by kernel_rfl) (fun _ _ _ h => h) (Or.inl ⟨by rfl, ?_⟩) (by assumption) ?_
            rotate_left
            · intro w' hSw
              obtain ⟨s0, s1, s2, s3, s4, s5, s6, s7⟩ := hSw
              go_simp
              all_goals (with_reducible rfl)
            try simp only [List.getElem_toArray, List.getElem_cons_zero, List.getElem_cons_succ, Act.put, List.setIfInBounds_toArray, List.set_cons_zero, List.set_cons_succ]
            refine wpAnyH_take (i := 11) (v := ?_) rfl (by kernel_rfl) (by kernel_rfl) (by kernel_rfl) (fun _ _ _ h => h) (Or.inl ⟨by rfl, ?_⟩) (by assumption) ?_
            rotate_left
            · intro w' hSw
              obtain ⟨s0, s1, s2, s3, s4, s5, s6, s7⟩ := hSw
              go_simp
              all_goals (with_reducible rfl)
            try simp only [List.getElem_toArray, List.getElem_cons_zero, List.getElem_cons_succ, Act.put, List.setIfInBounds_toArray, List.set_cons_zero, List.set_cons_succ]
            refine wpAnyH_take (i := 12) (v := ?_) rfl (by kernel_rfl) (by kernel_rfl) (by kernel_rfl) (fun _ _ _ h => h) (Or.inl ⟨by rfl, ?_⟩) (by assumption) ?_
            rotate_left
            · intro w' hSw
              obtain ⟨s0, s1, s2, s3, s4, s5, s6, s7⟩ := hSw
              go_simp
              all_goals (with_reducible rfl)
            try simp only [List.getElem_toArray, List.getElem_cons_zero, List.getElem_cons_succ, Act.put, List.setIfInBounds_toArray, List.set_cons_zero, List.set_cons_succ]
            refine wpAnyH_take (i := 13) (v := ?_) rfl (by kernel_rfl) (by kernel_rfl) (by kernel_rfl) (fun _ _ _ h => h) (Or.inl ⟨by rfl, ?_⟩) (by assumption) ?_
            rotate_left
            · intro w' hSw
              obtain ⟨s0, s1, s2, s3, s4, s5, s6, s7⟩ := hSw
              go_simp
              all_goals (with_reducible rfl)
            try simp only [List.getElem_toArray, List.getElem_cons_zero, List.getElem_cons_succ, Act.put, List.setIfInBounds_toArray, List.set_cons_zero, List.set_cons_succ]
            refine wpAnyH_take (i := 14) (v := ?_) rfl (by kernel_rfl) (by kernel_rfl) (by kernel_rfl) (fun _ _ _ h => h) (Or.inl ⟨by rfl, ?_⟩) (by assumption) ?_
            rotate_left
            · intro w' hSw
              obtain ⟨s0, s1, s2, s3, s4, s5, s6, s7⟩ := hSw
              go_simp
              all_goals (with_reducible rfl)
            try simp only [List.getElem_toArray, List.getElem_cons_zero, List.getElem_cons_succ, Act.put, List.setIfInBounds_toArray, List.set_cons_zero, List.set_cons_succ]
            refine wpAnyH_take (i := 15) (v := ?_) rfl (by kernel_rfl) (by kernel_rfl) (by kernel_rfl) (fun _ _ _ h => h) (Or.inl ⟨by rfl, ?_⟩) (by assumption) ?_
            rotate_left
            · intro w' hSw
              obtain ⟨s0, s1, s2, s3, s4, s5, s6, s7⟩ := hSw
              go_simp
              all_goals (with_reducible rfl)
            try simp only [List.getElem_toArray, List.getElem_cons_zero, List.getElem_cons_succ, Act.put, List.setIfInBounds_toArray, List.set_cons_zero, List.set_cons_succ]
            refine wpAnyH_take (i := 16) (v := ?_) rfl (by kernel_rfl) (by kernel_rfl) (by kernel_rfl) (fun _ _ _ h => h) (Or.inl ⟨by rfl, ?_⟩) (by assumption) ?_
            rotate_left
            · intro w' hSw
              obtain ⟨s0, s1, s2, s3, s4, s5, s6, s7⟩ := hSw
              go_simp
              all_goals (with_reducible rfl)
            try simp only [List.getElem_toArray, List.getElem_cons_zero, List.getElem_cons_succ, Act.put, List.setIfInBounds_toArray, List.set_cons_zero, List.set_cons_succ]
            refine wpAnyH_take (i := 17) (v := ?_) rfl (by kernel_rfl) (by kernel_rfl) (by kernel_rfl) (fun _ _ _ h => h) (Or.inl ⟨by rfl, ?_⟩) (by assumption) ?_
            rotate_left
            · intro w' hSw
              obtain ⟨s0, s1, s2, s3, s4, s5, s6, s7⟩ := hSw
              go_simp
              all_goals (with_reducible rfl)
            try simp only [List.getElem_toArray, List.getElem_cons_zero, List.getElem_cons_succ, Act.put, List.setIfInBounds_toArray, List.set_cons_zero, List.set_cons_succ]
            refine wpAnyH_take (i := 18) (v := ?_) rfl (by kernel_rfl) (by kernel_rfl) (by kernel_rfl) (fun _ _ _ h => h) (Or.inl ⟨by rfl, ?_⟩) (by assumption) ?_
            rotate_left
            · intro w' hSw
              obtain ⟨s0, s1, s2, s3, s4, s5, s6, s7⟩ := hSw
              go_simp
              all_goals (with_reducible rfl)
            try simp only [List.getElem_toArray, List.getElem_cons_zero, List.getElem_cons_succ, Act.put, List.setIfInBounds_toArray, List.set_cons_zero, List.set_cons_succ]
            refine wpAnyH_take (i := 19) (v := ?_) rfl (by kernel_rfl) (by kernel_rfl) (by kernel_rfl) (fun _ _ _ h => h) (Or.inl ⟨by rfl, ?_⟩) (by assumption) ?_
            rotate_left
            · intro w' hSw
              obtain ⟨s0, s1, s2, s3, s4, s5, s6, s7⟩ := hSw
              go_simp
              all_goals (with_reducible rfl)
            try simp only [List.getElem_toArray, List.getElem_cons_zero, List.getElem_cons_succ, Act.put, List.setIfInBounds_toArray, List.set_cons_zero, List.set_cons_succ]
            refine wpAnyH_take (i := 20) (v := ?_) rfl (by kernel_rfl) (by kernel_rfl) (by kernel_rfl) (fun _ _ _ h => h) (Or.inl ⟨by rfl, ?_⟩) (by assumption) ?_
            rotate_left
            · intro w' hSw
              obtain ⟨s0, s1, s2, s3, s4, s5, s6, s7⟩ := hSw
              go_simp
              all_goals (with_reducible rfl)
            try simp only [List.getElem_toArray, List.getElem_cons_zero, List.getElem_cons_succ, Act.put, List.setIfInBounds_toArray, List.set_cons_zero, List.set_cons_succ]
            refine wpAnyH_done (by kernel_rfl) ?_ _
            gi_wp2_with fail
            have hBW : Below Wr.heap.size Wr wl := HB2.out.trans (B.out.mono HB2.out.size)
            refine ⟨⟨hBW.size, fun q hq => hBW.block q ?_⟩, HE.out.below B.out⟩
            have h3 := HSW.out
            have h4 := HLT.out
            rcases hq with hq | hq | hq | hq
            · have := HI.out.lt q hq
              omega
            all_goals omega
        · intro W hE hdf
          have x0 := hE.an.cell
          have x1 := hE.an.frozen
          have HE := Lib.hid hE
          have HDF := Lib.hid hdf
          clear hE hdf
          go_wp2_with fail
          have h8 := J8.out.an.lt
          have hbx := HE.out.an.set (.bool true)
          have hB := HE.out.b.setCell (p := ⟨w.heap.size, 0, none⟩) (Nat.le_refl _) (.bool true)
          have hd := (Below.heap_setCell W ⟨w.heap.size, 0, none⟩ (.bool true) w8.heap.size (by show w8.heap.size ≠ w.heap.size; omega)).trans HDF.out
          refine ⟨by simp, .inl ⟨_, _, rfl, run_takeDeferred hd, ?_⟩⟩
          have hbx2 := hbx.same (World.putObj_heap_other (o := .deferred none) (show w.heap.size ≠ w8.heap.size by omega))
          have hB2 := hB.trans ((Touch.putObj (T := fun x => x = w8.heap.size) _ w8.heap.size (.deferred none) rfl).below hB.size fun x hx => by omega)
          have hc := hbx2.cell
          exact ⟨.bool true, by simp [results, Try.results5, go_sem, hc], rfl, hB2⟩
end Go.Proofs.Ytojhppcnpjajaaa
