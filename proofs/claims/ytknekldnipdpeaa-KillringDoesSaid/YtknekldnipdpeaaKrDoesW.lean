/-
  Whatever is killed, yanked and rotated: each answer and the entries are the document's: the walk.
-/
import Derived.Test.YtknekldnipdpeaaKrDoP
namespace Go.Proofs.Ytknekldnipdpeaa
open Go.RowKit Go.Shelf Go.Lib
attribute [local go_sem] Oper.semAt_some

theorem DI.told {w W : World} {g r : Nat} {S : KS} (h : DI w W g r S S) : ∃ A c pl, W.heap[r]? = some (.cells #[.slice A S.es.length c, .int .i64 pl] 28 (0, 0)) ∧ ∀ W', Below W.heap.size W W' → ∀ st, Calls Try.prog 19 #[.pointer (some ⟨g, 0, none⟩), .slice A S.es.length c, .int .i64 st] W' fun e w' => e = .returned (.bool true) ∧ Below W'.heap.size W' w' := by
  obtain ⟨K, K', h1, h2, _⟩ := h.ex
  obtain ⟨A, c, h3, _, h4⟩ := h2.cells
  exact ⟨A, c, _, h3, fun W' hb st => told_is W' g S (h1.below hb) A _ c (h4.below hb) rfl st⟩
/-- an operation's own box -/
def OBox (W : World) (ob : Nat) (a b n st : Int) (v : Value) : Prop := W.heap[ob]? = some (.cells #[.int .i64 a, .int .i64 b, v, .int .i64 n, .int .i64 st] 32 (0, 0))
theorem OBox.lt {W : World} {ob : Nat} {a b n st : Int} {v : Value} (h : OBox W ob a b n st v) : ob < W.heap.size := (Array.getElem?_eq_some_iff.1 h).1
theorem OBox.below {W W' : World} {ob : Nat} {a b n st : Int} {v : Value} (h : OBox W ob a b n st v) (hb : Below W.heap.size W W') : OBox W' ob a b n st v := (hb.block ob h.lt).trans h
theorem OBox.touch {W W' : World} {ob g : Nat} {a b n st : Int} {v : Value} (h : OBox W ob a b n st v) (ht : Touch (Only g) W W') (hg : g ≠ ob) : OBox W' ob a b n st v := (ht.block ob h.lt fun e => hg (by simp only [Only] at e; exact e.symm)).trans h
theorem OBox.get {W : World} {ob : Nat} {a b n st : Int} {v : Value} (h : OBox W ob a b n st v) : W.cell? ⟨ob, 0, none⟩ = some (.int .i64 a) ∧ W.cell? ⟨ob, 1, none⟩ = some (.int .i64 b) ∧ W.cell? ⟨ob, 2, none⟩ = some v ∧ W.cell? ⟨ob, 3, none⟩ = some (.int .i64 n) ∧ W.cell? ⟨ob, 4, none⟩ = some (.int .i64 st) :=
  ⟨cell_of_row W ob 0 _ _ _ h, cell_of_row W ob 1 _ _ _ h, cell_of_row W ob 2 _ _ _ h, cell_of_row W ob 3 _ _ _ h, cell_of_row W ob 4 _ _ _ h⟩
theorem OBox.drew {W : World} {ob : Nat} {a b n st : Int} {v : Value} (h : OBox W ob a b n st v) : OBox W.drew ob a b n st v := h
theorem yTxt_le {w W : World} {g r : Nat} {S S' : KS} (h : DI w W g r S S') : (yTxt S).length ≤ 140737488355328 := by
  obtain ⟨K, K', h1, _⟩ := h.ex
  unfold yTxt
  cases hx : S.es[S.pl]? with
  | none => simp
  | some x =>
    obtain ⟨vs, nw, _, he⟩ := h1.row
    obtain ⟨_, _, _, h3⟩ := he S.pl x hx
    simp
    omega
set_option maxRecDepth 1000000 in
set_option maxHeartbeats 16000000 in
theorem does_walk (w : World) (os : List OpB) (A : Option Addr) (n c : Nat) (h : Ops w (.slice A n c) os) : Calls Try.prog 3 #[.slice A n c] w fun e w' => e = .returned (.bool true) ∧ Below w.heap.size w w' := by
  obtain ⟨hlen, hops, A', c', e0, hcells⟩ := h
  injection e0 with e1 e2 e3
  subst e1 e3
  have HLEN : Hid (n ≤ 140737488355328) := Lib.hid (by rw [e2]; exact hlen)
  have HOPS := Lib.hid hops
  have HC := Lib.hid hcells
  have HN := Lib.hid e2
  have CN := Lib.hid (new_any w)
  have CL := Lib.hid fun W => live_any W
  clear hlen hops hcells e2
  go_enter Try.func3, Try.ntmps3
  go_wp2_with (first
    | (go_at_call 9; refine (CN.out).mono ?_; rintro e w1 ⟨rfl, hr, hb⟩; have D0 : Hid (DI w (w1.alloc (.cells #[.slice none 0 0, .int .i64 0] 28)) w.heap.size w1.heap.size ks0 ks0) := Lib.hid (by
        have hbn : Below w1.heap.size w1 (w1.alloc (.cells #[.slice none 0 0, .int .i64 0] 28)) := (Below.refl _ _).alloc (Nat.le_refl _) _
        have hg := hr.lt
        have hnew := alloc_new w1 (.cells #[.slice none 0 0, .int .i64 0] 28)
        exact ⟨⟨fun _ => False, fun _ => False, hr.below hbn, ⟨⟨_, hnew, [], World.ownsRow_nil _ _ _ _, fun _ h => by simp [Value.ownBlock] at h, fun i l hi => by simp [ks0] at hi⟩, by simp [ks0], .inr ⟨rfl, rfl⟩, (Array.getElem?_eq_some_iff.1 hnew).1, fun h => h, fun _ h => h.elim⟩, fun h => h, fun h => h, by omega⟩, hb.trans (hbn.mono hb.size), Nat.le_refl _, hb.size⟩); clear hr hb)
    | (go_at_call 10; refine (CL.out _).mono ?_; rintro e w2 ⟨rfl, hb⟩; have D1 := Lib.hid (D0.out.below hb); clear hb))
  generalize w1.heap.size = r at *
  go_loopw [3, 23] (fun kv i wr => ∃ (k g : Nat) (S : KS), k ≤ n ∧ i = .int .i64 (k : Int) ∧ kv = .pointer (some ⟨g, 0, none⟩) ∧ DI w wr g r S S) (fun _ i _ => n - (RowKit.intOf i).toNat)
  case atStart => exact ⟨0, w.heap.size, ks0, Nat.zero_le _, rfl, rfl, D1.out⟩
  case round =>
    obtain ⟨k, g, S, hk, rfl, rfl, hD⟩ := hrel
    by_cases hlt : k < n
    · obtain ⟨o, ho⟩ : ∃ o, os[k]? = some o := ⟨_, List.getElem?_eq_getElem (by rw [← HN.out]; exact hlt)⟩
      have hok := HOPS.out o (List.mem_of_getElem? ho)
      obtain ⟨b, off, rfl, hbl, hc⟩ := HC.out (by have := HN.out; omega)
      have hc := hc k o ho
      have st0 : wr.cell? ⟨b, off + k * 5, none⟩ = some (.int .i64 o.kind) := (hD.b.cell (p := ⟨b, off + k * 5 + 0, none⟩) hbl).trans (hc 0 _ rfl)
      have st1 : wr.cell? ⟨b, off + k * 5 + 1, none⟩ = some (.int .i64 o.way) := (hD.b.cell (p := ⟨b, off + k * 5 + 1, none⟩) hbl).trans (hc 1 _ rfl)
      have st2 : wr.cell? ⟨b, off + k * 5 + 2, none⟩ = some o.tv := (hD.b.cell (p := ⟨b, off + k * 5 + 2, none⟩) hbl).trans (hc 2 _ rfl)
      have st3 : wr.cell? ⟨b, off + k * 5 + 3, none⟩ = some (.int .i64 o.n) := (hD.b.cell (p := ⟨b, off + k * 5 + 3, none⟩) hbl).trans (hc 3 _ rfl)
      have st4 : wr.cell? ⟨b, off + k * 5 + 4, none⟩ = some (.int .i64 o.stop) := (hD.b.cell (p := ⟨b, off + k * 5 + 4, none⟩) hbl).trans (hc 4 _ rfl)
      obtain ⟨kind, way, tv, text, nn, stop⟩ := o
      dsimp only at st0 st1 st2 st3 st4
      have hht := hok.t
      dsimp only at hht
      obtain ⟨A2, c2, rfl, _⟩ := id hht
      have HT : Hid (∀ W, Below w.heap.size w W → Holds1 W (.slice A2 (runeVals text).length c2) (runeVals text)) := Lib.hid fun W hb => hht.below hb
      have j1 : (0 : Int) ≤ (k : Int) := by omega
      have j2 : ((k : Int) < (n : Int)) = True := eq_true (by omega)
      have j3 : (k < n) = True := eq_true hlt
      have hwk : wrap64 ((k : Int) + 1) = (k : Int) + 1 := by have := HLEN.out; unfold wrap64; omega
      have HLT := Lib.hid hlt
      obtain ⟨wa, hwa⟩ : ∃ wa, wa = wr.alloc (.cells #[.int .i64 kind, .int .i64 way, .slice A2 (runeVals text).length c2, .int .i64 nn, .int .i64 stop] 32) := ⟨_, rfl⟩
      have hO : OBox wa wr.heap.size kind way nn stop (.slice A2 (runeVals text).length c2) := by rw [hwa]; exact alloc_new _ _
      have hDa : DI w wa g r S S := by rw [hwa]; exact hD.below ((Below.refl _ _).alloc (Nat.le_refl _) _)
      have hgo : g ≠ wr.heap.size ∧ r ≠ wr.heap.size := by have := hD.lts; omega
      have HO := Lib.hid hO
      have HD := Lib.hid hDa
      have HGO := Lib.hid hgo
      have HWA := Lib.hid hwa
      have o0 := hO.get.1
      clear hok hht hk ho hbl hc hlt hD hwa hO hDa hgo
      generalize (runeVals text).length = tl at *
      by_cases hk0 : kind = 0
      · subst hk0
        have hT0 : wa.drew.cell? ⟨wr.heap.size, 1, none⟩ = some (.int .i64 way) ∧ wa.drew.cell? ⟨wr.heap.size, 2, none⟩ = some (.slice A2 tl c2) := ⟨HO.out.get.2.1, HO.out.get.2.2.1⟩
        have HDd : Hid (DI w wa.drew g r S S) := Lib.hid (HD.out.below (Below.refl _ _).drew)
        have CK := Lib.hid (HDd.out.kill way _ text (HT.out _ HDd.out.b))
        obtain ⟨S2, hS2⟩ : ∃ S2, S2 = killS S way text := ⟨_, rfl⟩
        rw [← hS2] at CK
        have HS2 := Lib.hid hS2
        generalize her : killErr S way text = er at *
        have HER := Lib.hid her
        clear hS2 her
        go_wp2_with fail
        rw [← HWA.out]
        go_wp2_with fail
        go_region_held3 (fun W => W.cell? ⟨wr.heap.size, 1, none⟩ = some (.int .i64 way) ∧ W.cell? ⟨wr.heap.size, 2, none⟩ = some (.slice A2 tl c2)) (first | with_reducible exact hT2 | with_reducible exact hT1 | with_reducible exact hT0 | fail) (first
          | (go_at_call 11; refine (CK.out).mono ?_; rintro e w3 ⟨rfl, hd, ht⟩; have O3 := HO.out.drew.touch ht HGO.out.1; have hT1 : w3.cell? ⟨wr.heap.size, 1, none⟩ = some (.int .i64 way) ∧ w3.cell? ⟨wr.heap.size, 2, none⟩ = some (.slice A2 tl c2) := ⟨O3.get.2.1, O3.get.2.2.1⟩; have HO3 := Lib.hid O3; have D3 := Lib.hid hd; clear hd ht O3)
          | (go_at_call 12; have ck := D3.out.wkill way _ text (HT.out _ D3.out.b); rw [HER.out, ← HS2.out] at ck; refine ck.mono ?_; rintro e w4 ⟨rfl, hd, ht⟩; have O4 := HO3.out.touch ht HGO.out.2; have hT2 : w4.cell? ⟨wr.heap.size, 1, none⟩ = some (.int .i64 way) ∧ w4.cell? ⟨wr.heap.size, 2, none⟩ = some (.slice A2 tl c2) := ⟨O4.get.2.1, O4.get.2.2.1⟩; have O9 := Lib.hid O4; have D9 := Lib.hid hd; clear hd ht O4 ck))
        obtain ⟨A9, c9, pl9, hr9, ht9⟩ := D9.out.told
        have CT9 := Lib.hid fun W' (hb : Below w4.drew.heap.size w4.drew W') => ht9 W' ⟨hb.os, hb.tape, hb.output, hb.size, hb.block⟩ stop
        have HR9 := Lib.hid hr9
        have r0 : w4.drew.cell? ⟨r, 0, none⟩ = some (.slice A9 (S2).es.length c9) := cell_of_row w4 r 0 _ _ _ hr9
        have hT9 : w4.drew.cell? ⟨r, 0, none⟩ = some (.slice A9 (S2).es.length c9) ∧ w4.drew.cell? ⟨wr.heap.size, 4, none⟩ = some (.int .i64 stop) := ⟨r0, O9.out.get.2.2.2.2⟩
        have HL9 := Lib.hid (And.intro D9.out.lts.2 O9.out.lt)
        clear hr9 ht9 r0
        generalize hln : (S2).es.length = ln at *
        clear hln
        go_wp2_with fail
        go_region_held3 (fun W => W.cell? ⟨r, 0, none⟩ = some (.slice A9 ln c9) ∧ W.cell? ⟨wr.heap.size, 4, none⟩ = some (.int .i64 stop)) (first | with_reducible exact hT11 | with_reducible exact hT10 | with_reducible exact hT9 | fail) (first
          | (go_at_call 18; refine (eq_same w4.drew [] _ _ (holds_nil _) (holds_nil _) (by simp)).mono ?_; rintro e w10 ⟨rfl, hb⟩; have hT10 : w10.cell? ⟨r, 0, none⟩ = some (.slice A9 ln c9) ∧ w10.cell? ⟨wr.heap.size, 4, none⟩ = some (.int .i64 stop) := ⟨(hb.cell (p := ⟨r, 0, none⟩) HL9.out.1).trans hT9.1, (hb.cell (p := ⟨wr.heap.size, 4, none⟩) HL9.out.2).trans hT9.2⟩; have B10 := Lib.hid hb; clear hb)
          | (go_at_call 19; refine (CT9.out _ B10.out).mono ?_; rintro e w11 ⟨rfl, hb⟩; have hT11 : w11.cell? ⟨r, 0, none⟩ = some (.slice A9 ln c9) ∧ w11.cell? ⟨wr.heap.size, 4, none⟩ = some (.int .i64 stop) := ⟨(hb.cell (p := ⟨r, 0, none⟩) (Nat.lt_of_lt_of_le HL9.out.1 B10.out.size)).trans hT10.1, (hb.cell (p := ⟨wr.heap.size, 4, none⟩) (Nat.lt_of_lt_of_le HL9.out.2 B10.out.size)).trans hT10.2⟩; have B11 := Lib.hid (B10.out.trans (hb.mono B10.out.size)); clear hb))
        all_goals
          go_wp2_with fail
          go_roundw
          case rel => exact ⟨k + 1, g, S2, HLT.out, next_val hwk, rfl, D9.out.below ⟨B11.out.os, B11.out.tape, B11.out.output, B11.out.size, B11.out.block⟩⟩
          case measure => exact measure_lt HLT.out hwk
      by_cases hk1 : kind = 1
      · subst hk1
        have o3 := HO.out.get.2.2.2.1
        clear HT
        go_wp2_with fail
        rw [← HWA.out]
        go_wp2_with (first
          | (go_at_call 13; have ck := HD.out.yank; refine ck.mono ?_; rintro e w3 ⟨⟨A5, n5, c5, hn5, rfl, hoff⟩, hd, ht⟩; have O3 := Lib.hid (HO.out.below ht); have D3 := Lib.hid hd; have HOFF := Lib.hid hoff; have HN5 := Lib.hid hn5; clear hd ht hoff hn5 ck)
          | (go_at_call 14; have ck := D3.out.wyank; refine ck.mono ?_; rintro e w4 ⟨⟨A6, n6, c6, hn6, rfl, hoff⟩, hd, ht⟩; have O9 := Lib.hid (O3.out.below ht); have D9 := Lib.hid hd; have H5 := Lib.hid (HOFF.out _ (Touch.of_below ht)); have H6 := Lib.hid hoff.holds; clear hd ht hoff hn6 ck))
        have HYL : Hid ((yTxt S).length ≤ 140737488355328) := Lib.hid (yTxt_le D9.out)
        obtain ⟨A9, c9, pl9, hr9, ht9⟩ := D9.out.told
        have CT9 := Lib.hid fun W' (hb : Below w4.drew.heap.size w4.drew W') => ht9 W' ⟨hb.os, hb.tape, hb.output, hb.size, hb.block⟩ stop
        have HR9 := Lib.hid hr9
        have r0 : w4.drew.cell? ⟨r, 0, none⟩ = some (.slice A9 (S).es.length c9) := cell_of_row w4 r 0 _ _ _ hr9
        have hT9 : w4.drew.cell? ⟨r, 0, none⟩ = some (.slice A9 (S).es.length c9) ∧ w4.drew.cell? ⟨wr.heap.size, 4, none⟩ = some (.int .i64 stop) := ⟨r0, O9.out.get.2.2.2.2⟩
        have HL9 := Lib.hid (And.intro D9.out.lts.2 O9.out.lt)
        clear hr9 ht9 r0
        generalize hln : (S).es.length = ln at *
        clear hln
        go_wp2_with fail
        go_region_held3 (fun W => W.cell? ⟨r, 0, none⟩ = some (.slice A9 ln c9) ∧ W.cell? ⟨wr.heap.size, 4, none⟩ = some (.int .i64 stop)) (first | with_reducible exact hT11 | with_reducible exact hT10 | with_reducible exact hT9 | fail) (first
          | (go_at_call 18; refine (eq_same w4.drew (yTxt S) _ _ (H5.out.below (Below.refl _ _).drew) (H6.out.below (Below.refl _ _).drew) HYL.out).mono ?_; rintro e w10 ⟨rfl, hb⟩; have hT10 : w10.cell? ⟨r, 0, none⟩ = some (.slice A9 ln c9) ∧ w10.cell? ⟨wr.heap.size, 4, none⟩ = some (.int .i64 stop) := ⟨(hb.cell (p := ⟨r, 0, none⟩) HL9.out.1).trans hT9.1, (hb.cell (p := ⟨wr.heap.size, 4, none⟩) HL9.out.2).trans hT9.2⟩; have B10 := Lib.hid hb; clear hb)
          | (go_at_call 19; refine (CT9.out _ B10.out).mono ?_; rintro e w11 ⟨rfl, hb⟩; have hT11 : w11.cell? ⟨r, 0, none⟩ = some (.slice A9 ln c9) ∧ w11.cell? ⟨wr.heap.size, 4, none⟩ = some (.int .i64 stop) := ⟨(hb.cell (p := ⟨r, 0, none⟩) (Nat.lt_of_lt_of_le HL9.out.1 B10.out.size)).trans hT10.1, (hb.cell (p := ⟨wr.heap.size, 4, none⟩) (Nat.lt_of_lt_of_le HL9.out.2 B10.out.size)).trans hT10.2⟩; have B11 := Lib.hid (B10.out.trans (hb.mono B10.out.size)); clear hb))
        all_goals
          go_wp2_with fail
          go_roundw
          case rel => exact ⟨k + 1, g, S, HLT.out, next_val hwk, rfl, D9.out.below ⟨B11.out.os, B11.out.tape, B11.out.output, B11.out.size, B11.out.block⟩⟩
          case measure => exact measure_lt HLT.out hwk
      by_cases hk2 : kind = 2
      · subst hk2
        have o3 := HO.out.get.2.2.2.1
        obtain ⟨S2, hS2⟩ : ∃ S2, S2 = rotS S nn := ⟨_, rfl⟩
        have HS2 := Lib.hid hS2
        clear hS2
        clear HT
        go_wp2_with fail
        rw [← HWA.out]
        go_wp2_with (first
          | (go_at_call 15; have ck := HD.out.rotate nn; rw [← HS2.out] at ck; refine ck.mono ?_; rintro e w3 ⟨⟨A5, n5, c5, hn5, rfl, hoff⟩, hd, ht⟩; have O3 := Lib.hid (HO.out.touch ht HGO.out.1); have D3 := Lib.hid hd; have HOFF := Lib.hid hoff; have HN5 := Lib.hid hn5; have o3 := O3.out.get.2.2.2.1; clear hd ht hoff hn5 ck)
          | (go_at_call 16; have ck := D3.out.wrotate nn; rw [← HS2.out] at ck; refine ck.mono ?_; rintro e w4 ⟨⟨A6, n6, c6, hn6, rfl, hoff⟩, hd, ht⟩; have O9 := Lib.hid (O3.out.touch ht HGO.out.2); have D9 := Lib.hid hd; have H5 := Lib.hid (HOFF.out _ ht); have H6 := Lib.hid hoff.holds; clear hd ht hoff hn6 ck))
        have HYL : Hid ((yTxt S2).length ≤ 140737488355328) := Lib.hid (yTxt_le D9.out)
        obtain ⟨A9, c9, pl9, hr9, ht9⟩ := D9.out.told
        have CT9 := Lib.hid fun W' (hb : Below w4.drew.heap.size w4.drew W') => ht9 W' ⟨hb.os, hb.tape, hb.output, hb.size, hb.block⟩ stop
        have HR9 := Lib.hid hr9
        have r0 : w4.drew.cell? ⟨r, 0, none⟩ = some (.slice A9 (S2).es.length c9) := cell_of_row w4 r 0 _ _ _ hr9
        have hT9 : w4.drew.cell? ⟨r, 0, none⟩ = some (.slice A9 (S2).es.length c9) ∧ w4.drew.cell? ⟨wr.heap.size, 4, none⟩ = some (.int .i64 stop) := ⟨r0, O9.out.get.2.2.2.2⟩
        have HL9 := Lib.hid (And.intro D9.out.lts.2 O9.out.lt)
        clear hr9 ht9 r0
        generalize hln : (S2).es.length = ln at *
        clear hln
        go_wp2_with fail
        go_region_held3 (fun W => W.cell? ⟨r, 0, none⟩ = some (.slice A9 ln c9) ∧ W.cell? ⟨wr.heap.size, 4, none⟩ = some (.int .i64 stop)) (first | with_reducible exact hT11 | with_reducible exact hT10 | with_reducible exact hT9 | fail) (first
          | (go_at_call 18; refine (eq_same w4.drew (yTxt S2) _ _ (H5.out.below (Below.refl _ _).drew) (H6.out.below (Below.refl _ _).drew) HYL.out).mono ?_; rintro e w10 ⟨rfl, hb⟩; have hT10 : w10.cell? ⟨r, 0, none⟩ = some (.slice A9 ln c9) ∧ w10.cell? ⟨wr.heap.size, 4, none⟩ = some (.int .i64 stop) := ⟨(hb.cell (p := ⟨r, 0, none⟩) HL9.out.1).trans hT9.1, (hb.cell (p := ⟨wr.heap.size, 4, none⟩) HL9.out.2).trans hT9.2⟩; have B10 := Lib.hid hb; clear hb)
          | (go_at_call 19; refine (CT9.out _ B10.out).mono ?_; rintro e w11 ⟨rfl, hb⟩; have hT11 : w11.cell? ⟨r, 0, none⟩ = some (.slice A9 ln c9) ∧ w11.cell? ⟨wr.heap.size, 4, none⟩ = some (.int .i64 stop) := ⟨(hb.cell (p := ⟨r, 0, none⟩) (Nat.lt_of_lt_of_le HL9.out.1 B10.out.size)).trans hT10.1, (hb.cell (p := ⟨wr.heap.size, 4, none⟩) (Nat.lt_of_lt_of_le HL9.out.2 B10.out.size)).trans hT10.2⟩; have B11 := Lib.hid (B10.out.trans (hb.mono B10.out.size)); clear hb))
        all_goals
          go_wp2_with fail
          go_roundw
          case rel => exact ⟨k + 1, g, S2, HLT.out, next_val hwk, rfl, D9.out.below ⟨B11.out.os, B11.out.tape, B11.out.output, B11.out.size, B11.out.block⟩⟩
          case measure => exact measure_lt HLT.out hwk
      have n0 : (kind = 0) = False := eq_false hk0
      have n1 : (kind = 1) = False := eq_false hk1
      have n2 : (kind = 2) = False := eq_false hk2
      have m0 : (kind == 0) = false := by simpa using hk0
      have m1 : (kind == 1) = false := by simpa using hk1
      have m2 : (kind == 2) = false := by simpa using hk2
      have o1 := HO.out.get.2.1
      have o2 := HO.out.get.2.2.1
      clear hk0 hk1 hk2
      go_wp2_with fail
      rw [← HWA.out]
      go_wp2_with (first
        | (go_at_call 17; refine (HD.out.clone).mono ?_; rintro e w3 ⟨rfl, hd, hb⟩; have O3 := Lib.hid (HO.out.below hb); have D3 := Lib.hid hd; have o1 := O3.out.get.2.1; have o2 := O3.out.get.2.2.1; clear hd hb)
        | (go_at_call 11; refine (D3.out.kill way _ text (HT.out _ D3.out.di.b)).mono ?_; rintro e w4 ⟨⟨er, rfl⟩, hd, ht⟩; have O4 := Lib.hid (O3.out.touch ht HGO.out.1); have D4 := Lib.hid hd; clear hd ht)
        | (go_at_call 15; refine (D4.out.rotate 1).mono ?_; rintro e w5 ⟨⟨A5, n5, c5, er5, rfl⟩, hd, ht⟩; have O9 := Lib.hid (O4.out.touch ht HGO.out.1); have D9 := Lib.hid hd.di; clear hd ht))
      obtain ⟨A9, c9, pl9, hr9, ht9⟩ := D9.out.told
      have CT9 := Lib.hid fun W' (hb : Below w5.drew.heap.size w5.drew W') => ht9 W' ⟨hb.os, hb.tape, hb.output, hb.size, hb.block⟩ stop
      have HR9 := Lib.hid hr9
      have r0 : w5.drew.cell? ⟨r, 0, none⟩ = some (.slice A9 (S).es.length c9) := cell_of_row w5 r 0 _ _ _ hr9
      have hT9 : w5.drew.cell? ⟨r, 0, none⟩ = some (.slice A9 (S).es.length c9) ∧ w5.drew.cell? ⟨wr.heap.size, 4, none⟩ = some (.int .i64 stop) := ⟨r0, O9.out.get.2.2.2.2⟩
      have HL9 := Lib.hid (And.intro D9.out.lts.2 O9.out.lt)
      clear hr9 ht9 r0
      generalize hln : (S).es.length = ln at *
      clear hln
      go_wp2_with fail
      go_region_held3 (fun W => W.cell? ⟨r, 0, none⟩ = some (.slice A9 ln c9) ∧ W.cell? ⟨wr.heap.size, 4, none⟩ = some (.int .i64 stop)) (first | with_reducible exact hT11 | with_reducible exact hT10 | with_reducible exact hT9 | fail) (first
        | (go_at_call 18; refine (eq_same w5.drew [] _ _ (holds_nil _) (holds_nil _) (by simp)).mono ?_; rintro e w10 ⟨rfl, hb⟩; have hT10 : w10.cell? ⟨r, 0, none⟩ = some (.slice A9 ln c9) ∧ w10.cell? ⟨wr.heap.size, 4, none⟩ = some (.int .i64 stop) := ⟨(hb.cell (p := ⟨r, 0, none⟩) HL9.out.1).trans hT9.1, (hb.cell (p := ⟨wr.heap.size, 4, none⟩) HL9.out.2).trans hT9.2⟩; have B10 := Lib.hid hb; clear hb)
        | (go_at_call 19; refine (CT9.out _ B10.out).mono ?_; rintro e w11 ⟨rfl, hb⟩; have hT11 : w11.cell? ⟨r, 0, none⟩ = some (.slice A9 ln c9) ∧ w11.cell? ⟨wr.heap.size, 4, none⟩ = some (.int .i64 stop) := ⟨(hb.cell (p := ⟨r, 0, none⟩) (Nat.lt_of_lt_of_le HL9.out.1 B10.out.size)).trans hT10.1, (hb.cell (p := ⟨wr.heap.size, 4, none⟩) (Nat.lt_of_lt_of_le HL9.out.2 B10.out.size)).trans hT10.2⟩; have B11 := Lib.hid (B10.out.trans (hb.mono B10.out.size)); clear hb))
      all_goals
        go_wp2_with fail
        go_roundw
        case rel => exact ⟨k + 1, wa.heap.size, S, HLT.out, next_val hwk, rfl, D9.out.below ⟨B11.out.os, B11.out.tape, B11.out.output, B11.out.size, B11.out.block⟩⟩
        case measure => exact measure_lt HLT.out hwk
    · obtain rfl : k = n := by omega
      have i2 : ((k : Int) < (k : Int)) = False := by simp
      have B8 := Lib.hid hD.b
      clear hlt hk hD
      go_wp2
      go_ret
      exact ⟨rfl, B8.out⟩
end Go.Proofs.Ytknekldnipdpeaa
