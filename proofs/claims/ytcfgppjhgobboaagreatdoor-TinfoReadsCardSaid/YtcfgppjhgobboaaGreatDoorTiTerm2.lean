/-
  The reader of package tinfo: an entry, walked.
-/
import Derived.Test.YtcfgppjhgobboaaGreatDoorTiTerm1
namespace Go.Proofs.YtcfgppjhgobboaaGreatDoor
open Go.RowKit Go.Shelf Go.Lib
attribute [local go_sem] Oper.semAt_some

theorem RdAt.res {w : World} {rb : Nat} {v : Value} {b : List UInt8} {p s : Nat} (h : RdAt w rb v b p s) (o : Obj) : RdAt (w.alloc o) rb v b p s := h.below ((Below.refl _ _).alloc (Nat.le_refl _) _)
theorem TS.rd {T : Nat → Prop} {w W : World} {rb : Nat} {v : Value} {b : List UInt8} {pos size ka oa cap t2 t4 : Nat} {P : World → Prop} {nm : List UInt8} {wd : Bool} {x0 x1 x2 xe : Value} (h : TS T w W rb v b pos size ka oa cap P t2 t4 nm wd x0 x1 x2 xe) : RdAt W rb v b pos size := h.es.step.1
theorem touch_new {T : Nat → Prop} {w w' : World} {o : Obj} (h : Touch T (w.alloc o) w') : Touch T w w' := (Touch.of_below ((Below.refl _ _).alloc (Nat.le_refl _) o)).trans h
theorem Rob.fewer {T T' : Nat → Prop} {W : World} {u : Value} {l : List CapD} (h : Rob T W u l) (hT : ∀ k, T' k → T k) : Rob T' W u l := fun W' ht => h W' (ht.mono fun k _ hk => hT k hk)
theorem RobT.less {T T' : Nat → Prop} {W : World} {v : Nat → Value} {ve : Value} {t : TermD} (h : RobT T W v ve t) (hT : ∀ k, T' k → T k) : RobT T' W v ve t :=
  ⟨fun i hi => (h.caps i hi).fewer hT, fun W' ht => h.exts W' (ht.mono fun k _ hk => hT k hk)⟩
theorem TS.add {T : Nat → Prop} {w W : World} {rb : Nat} {v : Value} {b : List UInt8} {pos size ka oa cap t2 t4 : Nat} {P Q : World → Prop} {nm : List UInt8} {wd : Bool} {x0 x1 x2 xe : Value} (h : TS T w W rb v b pos size ka oa cap P t2 t4 nm wd x0 x1 x2 xe) (hq : RobP T W Q) : TS T w W rb v b pos size ka oa cap (fun W => P W ∧ Q W) t2 t4 nm wd x0 x1 x2 xe := ⟨h.es.add hq, h.box, h.res⟩
theorem TS.close {T : Nat → Prop} {w W : World} {rb : Nat} {v : Value} {b : List UInt8} {pos size ka oa cap t4 : Nat} {P : World → Prop} {nm : List UInt8} {wd : Bool} {x0 x1 x2 xe : Value} {t : TermD} (h : TS T w W rb v b pos size ka oa cap P w.heap.size t4 nm wd x0 x1 x2 xe)
    (hr : readAll b = .ok t) (hT : ∀ k, k < w.heap.size → T k) (hT2 : T w.heap.size) (hrob : RobT T W (tri x0 x1 x2) xe t) : TermPost w rb b (.returned (termVal t (tri x0 x1 x2) xe)) (storeTerm W w.heap.size t (tri x0 x1 x2) xe) := by
  have ht := storeTerm_touch W w.heap.size t (tri x0 x1 x2) xe
  exact TermPost.ok hr (touch_grow h.es.step.2 (ht.mono fun k _ hk => .inr (by omega))) ((hrob.next (ht.mono fun k _ hk => hk ▸ hT2)).less hT)
theorem extsV_nil (W : World) : ExtsV W (.slice none 0 0) [] := ExtRow.reads (World.ownsRow_nil _ _ _ _) (by simp)
theorem extsFrom_length (kind : Int) (names : List (List UInt8)) (caps : List CapD) : (extsFrom kind names caps).length ≤ caps.length := by
  unfold extsFrom
  rw [List.length_map, List.length_zip]
  exact Nat.min_le_right _ _
theorem readExt_len {wide : Bool} {b : List UInt8} {p : Nat} {x : List ExtD} {fin : Nat} (h : readExt wide b p = .ok (x, fin)) : x.length ≤ 256 := by
  by_cases h1 : b.length < p + 10
  · rw [readExt_e1 h1] at h; cases h
  cases hf : firstBad 5 (extBad b p) with
  | some i => rw [readExt_e2 h1 hf] at h; cases h
  | none =>
    have hb := extCnt_bd hf
    unfold readExt at h
    rw [if_neg h1, hf] at h
    simp only at h
    split at h
    · cases h
    split at h
    · cases h
    split at h
    · cases h
    split at h
    · cases h
    injection h with h
    injection h with h _
    rw [← h]
    unfold extsOf
    rw [List.length_append, List.length_append]
    have e1 := extsFrom_length 0 ((shortsAt b (lay2 wide p (cnt b p)).names (cnt b p 0 + cnt b p 1 + cnt b p 2)).map (nameOf ((part b (lay2 wide p (cnt b p)).tab (cnt b p 4)).drop (endOf (shortsAt b (lay2 wide p (cnt b p)).strs (cnt b p 2)) (textsOf (part b (lay2 wide p (cnt b p)).tab (cnt b p 4)) (shortsAt b (lay2 wide p (cnt b p)).strs (cnt b p 2))) (-1, 0)).2.toNat))) (flagsAt b (lay2 wide p (cnt b p)).bools (cnt b p 0))
    refine Nat.le_trans (Nat.add_le_add (Nat.add_le_add e1 (extsFrom_length _ _ _)) (extsFrom_length _ _ _)) ?_
    rw [flagsAt_length, List.length_map, numsAt_length]
    unfold textsOf
    rw [List.length_map, shorts_length]
    exact hb.2.1
theorem term_early (w : World) (rb : Nat) (A : Option Addr) (cap : Nat) (b : List UInt8) (h : RdAt w rb (.slice A b.length cap) b 0 0) (q : Nat) (er : Int)
    (hq : ∀ (W : World) e w', HeadPost W rb (.slice A b.length cap) b e w' → e = flawE q er ∧ Touch (fun k => k = rb) W w') (hr : readFirst b = .error (q, er)) :
    Calls Tryz.prog 24 #[.pointer (some ⟨rb, 0, none⟩)] w (TermPost w rb b) := by
  have CT := Lib.hid ((head_any (w.alloc termZero) rb A cap b 0 (h.res _)).mono fun e w' hx => hq _ e w' hx)
  have HR := Lib.hid (readAll_e1 hr)
  clear h hq hr
  go_enter Tryz.func24, Tryz.ntmps24
  go_wp2_with (go_at_call 63; (refine (CT.out).mono ?_); rintro e w' ⟨rfl, ht⟩; have HS := Lib.hid (touch_new ht); clear ht)
  exact ⟨rfl, TermPost.error HR.out HS.out⟩
set_option maxRecDepth 100000 in
set_option maxHeartbeats 16000000 in
theorem term_long (w : World) (rb : Nat) (A : Option Addr) (cap : Nat) (b : List UInt8) (h : RdAt w rb (.slice A b.length cap) b 0 0) (hTb : RobP (fun k => k = rb) w Tabs) (hl : ¬ b.length < 12) (h2 : ¬ (shortAt b 0 ≠ 282 ∧ shortAt b 0 ≠ 542)) (hf : firstBad 5 (countBad b) = none) :
    Calls Tryz.prog 24 #[.pointer (some ⟨rb, 0, none⟩)] w (TermPost w rb b) := by
  have CT := Lib.hid (head_any (w.alloc termZero) rb A cap b 0 (h.res _))
  have H0 := Lib.hid h
  have HL := Lib.hid (And.intro hl (And.intro h2 hf))
  have HTB := Lib.hid hTb
  have hrb := h.lt
  have HRB := Lib.hid hrb
  obtain ⟨hnn, ⟨n0, n1⟩, n2, n3, n4, n5⟩ := cnt_bd hf
  have HC := Lib.hid hnn
  have HLEN := Lib.hid h.val.size
  obtain ⟨wide, hw⟩ : ∃ wide, decide (shortAt b 0 = 542) = wide := ⟨_, rfl⟩
  have hsz : (((sizeOf wide : Nat) : Int) == 4) = wide := by cases wide <;> rfl
  obtain ⟨q1, hq1⟩ : ∃ q, 12 + cnt b 2 0 = q := ⟨_, rfl⟩
  obtain ⟨q2, hq2⟩ : ∃ q, q1 + cnt b 2 1 = q := ⟨_, rfl⟩
  obtain ⟨q3, hq3⟩ : ∃ q, evenUp q2 = q := ⟨_, rfl⟩
  obtain ⟨q4, hq4⟩ : ∃ q, q3 + cnt b 2 2 * sizeOf wide = q := ⟨_, rfl⟩
  obtain ⟨q5, hq5⟩ : ∃ q, q4 + cnt b 2 3 * 2 = q := ⟨_, rfl⟩
  obtain ⟨q6, hq6⟩ : ∃ q, q5 + cnt b 2 4 = q := ⟨_, rfl⟩
  have hlay : lay1 wide (cnt b 2) = ⟨q1, q3, q4, q5, q6⟩ := by rw [lay1_eq, hq1, hq2, hq3, hq4, hq5, hq6]
  have HSH : Hid (b.length < q6 → readFirst b = .error (b.length, 31)) := Lib.hid (fun h => readFirst_e4 hl h2 hf hw (by rw [hlay]; exact h))
  have HQ := Lib.hid (And.intro hq1 (And.intro hq2 (And.intro hq3 (And.intro hq4 (And.intro hq5 hq6)))))
  have HG : Hid (q1 ≤ q2 ∧ q2 ≤ q3 ∧ q3 ≤ q4 ∧ q4 ≤ q5 ∧ q5 ≤ q6) := Lib.hid (by refine ⟨by omega, hq3 ▸ evenUp_le _, by rw [← hq4]; exact Nat.le_add_right _ _, by omega, by omega⟩)
  obtain ⟨is, his⟩ : ∃ l, shortsAt b q4 (cnt b 2 3) = l := ⟨_, rfl⟩
  obtain ⟨tab, htab⟩ : ∃ l, part b q5 (cnt b 2 4) = l := ⟨_, rfl⟩
  obtain ⟨nms, hnms⟩ : ∃ l, part b 12 (cnt b 2 0) = l := ⟨_, rfl⟩
  have hE5 := @readFirst_e5 b wide hl h2 hf hw
  have hE6 := fun i => @readFirst_e6 b wide i hl h2 hf hw
  have hE7 := @readFirst_ok b wide hl h2 hf hw
  rw [hlay] at hE5 hE6 hE7
  simp only [his, htab, hnms] at hE5 hE6 hE7
  have HE5 := Lib.hid hE5
  have HE6 := Lib.hid hE6
  have HE7 := Lib.hid hE7
  have HIS := Lib.hid (And.intro his (And.intro htab hnms))
  have HLI : Hid (is.length = cnt b 2 3) := Lib.hid (by rw [← his, shorts_length])
  have HC0 := Lib.hid n0
  have HTL : Hid (b.length < q6 ∨ tab.length = cnt b 2 4) := Lib.hid (by rcases Nat.lt_or_ge b.length q6 with h | h; exact .inl h; exact .inr (by rw [← htab]; exact part_length b (by omega)))
  have HTX : Hid ((textsOf tab is).length = cnt b 2 3) := Lib.hid (by unfold textsOf; rw [List.length_map, HLI.out])
  have HB4 : Hid (b.length < q6 ∨ q4 ≤ 140737488351232) := Lib.hid (by have := HG.out; have := HLEN.out; omega)
  have j0 : ((cnt b 2 0 : Nat) : Int) ≤ 512 := by omega
  have j1 : ((cnt b 2 1 : Nat) : Int) ≤ 64 := by omega
  have j2 : ((cnt b 2 2 : Nat) : Int) ≤ 64 := by omega
  have j3 : ((cnt b 2 3 : Nat) : Int) ≤ 512 := by omega
  have j4 : ((cnt b 2 4 : Nat) : Int) ≤ 32767 := by omega
  have HW := Lib.hid hw
  have hbt : ∀ (x : Bool) W, (Instr.build 26 #[(1, .bool x)]).run Tryz.prog W = .ok (.agg #[.string ⟨#[]⟩, .bool x, .slice none 0 0, .slice none 0 0, .slice none 0 0, .slice none 0 0]) W := fun x W => by kernel_rfl
  clear h hTb hl h2 hf hnn n0 n1 n2 n3 n4 n5 hw hq1 hq2 hq3 hq4 hq5 hq6 hlay his htab hnms hE5 hE6 hE7
  go_enter Tryz.func24, Tryz.ntmps24
  go_wp2_with (first
    | (go_at_call 63; (refine (CT.out).mono ?_); rintro e w1 ⟨ht, hm⟩; rw [if_neg HL.out.1, if_neg HL.out.2.1, HL.out.2.2] at hm; obtain ⟨B1, bc1, rfl, hrob, hrd⟩ := hm
       rw [HW.out] at hrd
       obtain ⟨ka, oa, rfl, _, _⟩ := hrob.val.cell (shorts_at b 2 5 0 (by omega))
       have HNE : Hid (w.heap.size ≠ rb ∧ w1.heap.size ≠ rb ∧ w.heap.size ≠ w1.heap.size ∧ w.heap.size ≤ w1.heap.size) := Lib.hid (by have := ht.size; simp at this; omega)
       have HE := Lib.hid (show TS (fun k => k < w.heap.size ∨ k = w.heap.size ∨ k = w1.heap.size) w (w1.alloc (termObj [] wide (.slice none 0 0) (.slice none 0 0) (.slice none 0 0) (.slice none 0 0))) rb (.slice A b.length cap) b 12 (sizeOf wide) ka oa bc1 (fun _ => True) w.heap.size w1.heap.size [] wide (.slice none 0 0) (.slice none 0 0) (.slice none 0 0) (.slice none 0 0) from
         ⟨⟨⟨hrd.res _, (touch_new ht).trans (Touch.of_below ((Below.refl _ _).alloc (Nat.le_refl _) _))⟩, hrob.grow (Touch.of_below ((Below.refl _ _).alloc (Nat.le_refl _) _)) (fun k hk hx => by simp; omega), fun _ _ => trivial⟩, World.alloc_heap_new _ _, (Below.heap_alloc _ _ _ (by have := ht.size; simp at this; omega)).trans ((ht.block w.heap.size (by simp) HNE.out.1).trans (World.alloc_heap_new _ _))⟩)
       have c2 := hrd.cells.2.2.1
       clear hrob hrd ht; obtain ⟨k0, k1, k2, k3, k4, d0, d1, d2⟩ := HE.out.es.cells HC.out; obtain ⟨b0, b1, b2, b3, b4, b5, f0, f2, f3, f4, f5⟩ := HE.out.cells)
    | (go_at_call 64; first
       | ((with_reducible refine (take_or _ rb A cap b 12 _ (cnt b 2 0) HE.out.rd (by omega)).mono ?_); rw [HQ.out.1]; rintro e w2 (⟨hb, rfl, ht⟩ | ⟨hk, rfl, hs⟩)
          have HBAD := Lib.hid (TermPost.error (readAll_e1 (HSH.out (by have := HG.out; omega))) (HE.out.es.step.2.trans ht))
          clear ht hb
          rotate_left
          obtain ⟨A5, hA5⟩ : ∃ X, tailA A cap 12 1 = X := ⟨_, rfl⟩
          obtain ⟨n5, hn5⟩ : ∃ X, cap - 12 = X := ⟨_, rfl⟩
          have HBY : Hid (BytesV w (.slice A5 (cnt b 2 0) n5) nms → True) := Lib.hid (fun _ => trivial)
          have HNV : Hid (∀ W, BytesV W (.slice A b.length cap) b → BytesV W (.slice A5 (cnt b 2 0) n5) nms) := Lib.hid (fun W hW => by rw [← hA5, ← hn5, ← HIS.out.2.2]; exact hW.part (by have := HQ.out.1; omega))
          rw [hA5, hn5]
          have hE2 := HE.out.next (.inl HRB.out) HNE.out.1 HNE.out.2.1 hs
          clear HE HBY k0 k1 k2 k3 k4 d0 d1 d2 b0 b1 b2 b3 b4 b5 f0 f2 f3 f4 f5 hs hk hA5 hn5; have HE := Lib.hid hE2; clear hE2; obtain ⟨k0, k1, k2, k3, k4, d0, d1, d2⟩ := HE.out.es.cells HC.out; obtain ⟨b0, b1, b2, b3, b4, b5, f0, f2, f3, f4, f5⟩ := HE.out.cells; rotate_right)
       | ((with_reducible refine (take_or _ rb A cap b q5 _ (cnt b 2 4) HE.out.rd (by omega)).mono ?_); rw [HQ.out.2.2.2.2.2]; rintro e w8 (⟨hb, rfl, ht⟩ | ⟨hk, rfl, hs⟩)
          have HBAD := Lib.hid (TermPost.error (readAll_e1 (HSH.out (by have := HG.out; omega))) (HE.out.es.step.2.trans ht))
          clear ht hb
          rotate_left
          obtain ⟨A6, hA6⟩ : ∃ X, tailA A cap q5 1 = X := ⟨_, rfl⟩
          obtain ⟨n6, hn6⟩ : ∃ X, cap - q5 = X := ⟨_, rfl⟩
          have HK6 := Lib.hid hk
          have HTV : Hid (∀ W, BytesV W (.slice A b.length cap) b → BytesV W (.slice A6 (cnt b 2 4) n6) tab) := Lib.hid (fun W hW => by rw [← hA6, ← hn6, ← HIS.out.2.1]; exact hW.part (by have := HQ.out.2.2.2.2.2; omega))
          rw [hA6, hn6]
          have hE2 := HE.out.next (.inl HRB.out) HNE.out.1 HNE.out.2.1 hs
          clear HE k0 k1 k2 k3 k4 d0 d1 d2 b0 b1 b2 b3 b4 b5 f0 f2 f3 f4 f5 hs hk hA6 hn6; have HE := Lib.hid hE2; clear hE2; obtain ⟨k0, k1, k2, k3, k4, d0, d1, d2⟩ := HE.out.es.cells HC.out; obtain ⟨b0, b1, b2, b3, b4, b5, f0, f2, f3, f4, f5⟩ := HE.out.cells; rotate_right))
    | (go_at_call 65; (refine (flags_or _ rb A cap b _ _ (cnt b 2 1) HE.out.rd (by omega)).mono ?_); rw [HQ.out.2.1]; rintro e w3 (⟨hb, rfl, ht⟩ | ⟨hk, u1, rfl, hr, ho, hs⟩)
       have HBAD := Lib.hid (TermPost.error (readAll_e1 (HSH.out (by have := HG.out; omega))) (HE.out.es.step.2.trans ht))
       clear ht hb
       rotate_left
       have hf := hr.form
       rw [flagsAt_length] at hf
       obtain ⟨A1, n1, rfl⟩ := hf
       have hE1 := HE.out.next (.inl HRB.out) HNE.out.1 HNE.out.2.1 hs
       have hlt := HE.out.es.step.2.size
       have hlt2 := (Array.getElem?_eq_some_iff.1 HE.out.box).1
       have hE2 := ((hE1.addCaps (Rob.of_row (T := fun k => k < w.heap.size ∨ k = w.heap.size ∨ k = w1.heap.size) hr (fun k hk hx => by have := ho k hk; have := HNE.out; omega) (by rw [flagsAt_length]; omega))).set (j := 2) (x := .slice A1 (cnt b 2 1) n1) H0.out (.inr (.inr rfl)) HNE.out.2.2.1 HNE.out.2.1 HNE.out.2.2.2 rfl)
       clear k0 k1 k2 k3 k4 d0 d1 d2 b0 b1 b2 b3 b4 b5 f0 f2 f3 f4 f5; have HE1 := Lib.hid hE1; clear HE; have HE := Lib.hid hE2; clear hE2 hr ho hs hk hlt hlt2; obtain ⟨k0, k1, k2, k3, k4, d0, d1, d2⟩ := HE.out.es.cells HC.out; obtain ⟨b0, b1, b2, b3, b4, b5, f0, f2, f3, f4, f5⟩ := HE.out.cells; obtain ⟨_, _, g2, _, _, _, _, e2, _, _, _⟩ := hE1.cells; clear hE1; rotate_right)
    | (go_at_call 66; (refine (even_or _ rb A cap b _ _ HE.out.es.step.1).mono ?_); rw [HQ.out.2.2.1]; rintro e w4 (⟨hb, rfl, ht⟩ | ⟨hk, rfl, hs⟩)
       have HBAD := Lib.hid (TermPost.error (readAll_e1 (HSH.out (by have := HG.out; omega))) (HE.out.es.step.2.trans ht))
       clear ht hb
       rotate_left
       have hE2 := HE.out.next (.inl HRB.out) HNE.out.1 HNE.out.2.1 hs
       clear HE k0 k1 k2 k3 k4 d0 d1 d2 b0 b1 b2 b3 b4 b5 f0 f2 f3 f4 f5 hs hk; have HE := Lib.hid hE2; clear hE2; obtain ⟨k0, k1, k2, k3, k4, d0, d1, d2⟩ := HE.out.es.cells HC.out; obtain ⟨b0, b1, b2, b3, b4, b5, f0, f2, f3, f4, f5⟩ := HE.out.cells; rotate_right)
    | (go_at_call 67; (refine (numbers_or _ rb A cap b _ wide (cnt b 2 2) HE.out.rd (by omega)).mono ?_); rw [HQ.out.2.2.2.1]; rintro e w5 (⟨hb, rfl, ht⟩ | ⟨hk2, u2, rfl, hr, ho, hs⟩)
       have HBAD := Lib.hid (TermPost.error (readAll_e1 (HSH.out (by have := HG.out; omega))) (HE.out.es.step.2.trans ht))
       clear ht hb
       rotate_left
       have hf := hr.form
       rw [List.length_map, numsAt_length] at hf
       obtain ⟨A2, n2, rfl⟩ := hf
       have hE1 := HE.out.next (.inl HRB.out) HNE.out.1 HNE.out.2.1 hs
       have hlt := HE.out.es.step.2.size
       have hlt2 := (Array.getElem?_eq_some_iff.1 HE.out.box).1
       have hE2 := ((hE1.addCaps (Rob.of_row (T := fun k => k < w.heap.size ∨ k = w.heap.size ∨ k = w1.heap.size) hr (fun k hk hx => by have := ho k hk; have := HNE.out; omega) (by rw [List.length_map, numsAt_length]; omega))).set (j := 3) (x := .slice A2 (cnt b 2 2) n2) H0.out (.inr (.inr rfl)) HNE.out.2.2.1 HNE.out.2.1 HNE.out.2.2.2 rfl)
       clear k0 k1 k2 k3 k4 d0 d1 d2 b0 b1 b2 b3 b4 b5 f0 f2 f3 f4 f5; clear HE; have HE := Lib.hid hE2; clear hE2 hr ho hs hk2 hlt hlt2; obtain ⟨k0, k1, k2, k3, k4, d0, d1, d2⟩ := HE.out.es.cells HC.out; obtain ⟨b0, b1, b2, b3, b4, b5, f0, f2, f3, f4, f5⟩ := HE.out.cells; obtain ⟨_, _, _, g3, _, _, _, _, e3, _, _⟩ := hE1.cells; clear hE1; rotate_right)
    | (go_at_call 68; (refine (shorts_or _ rb A cap b _ _ (cnt b 2 3) HE.out.rd (by omega)).mono ?_); rw [HQ.out.2.2.2.2.1, HIS.out.1]; rintro e w6 (⟨hb, rfl, ht⟩ | ⟨hk3, u3, rfl, hr, ho, hs⟩)
       have HBAD := Lib.hid (TermPost.error (readAll_e1 (HSH.out (by have := HG.out; omega))) (HE.out.es.step.2.trans ht))
       clear ht hb
       rotate_left
       have hlt := HE.out.es.step.2.size
       have hlt2 := (Array.getElem?_eq_some_iff.1 HE.out.box).1
       have hR := RobI.of_row (T := fun k => k < w.heap.size ∨ k = w.heap.size ∨ k = w1.heap.size) hr (fun k hk hx => by have := ho k hk; have := HNE.out; omega) (by rw [HLI.out]; omega)
       obtain ⟨A3, n3, hB3, _⟩ := hr.reads_n HLI.out (by omega)
       subst hB3
       have hE2 := (HE.out.next (.inl HRB.out) HNE.out.1 HNE.out.2.1 hs).addInts hR
       clear HE k0 k1 k2 k3 k4 d0 d1 d2 b0 b1 b2 b3 b4 b5 f0 f2 f3 f4 f5 hr ho hs hR hk3 hlt hlt2; have HE := Lib.hid hE2; clear hE2; obtain ⟨k0, k1, k2, k3, k4, d0, d1, d2⟩ := HE.out.es.cells HC.out; obtain ⟨b0, b1, b2, b3, b4, b5, f0, f2, f3, f4, f5⟩ := HE.out.cells; rotate_right)
    | (go_at_call 69; (refine (namesOf_any _ 12 A5 (cnt b 2 0) n5 nms (HNV.out _ HE.out.rd.val)).mono ?_); rintro e w9 ⟨rfl, he⟩
       rcases Bool.eq_false_or_eq_true (namesBad nms) with hb | hb
       rw [if_pos hb] at he
       subst he
       have HBAD := Lib.hid (TermPost.error (readAll_e1 (HE5.out (by have := HK6.out; omega) hb)) HE.out.es.step.2)
       clear hb
       rotate_left
       rw [if_neg (by rw [hb]; decide)] at he
       subst he
       have HNB := Lib.hid hb
       obtain ⟨nm, hnm⟩ : ∃ l, nms.take (nms.length - 1) = l := ⟨_, rfl⟩
       rw [hnm]
       have HNM := Lib.hid hnm
       have hE2 := HE.out.set (j := 0) (x := str nm) H0.out (.inr (.inr rfl)) HNE.out.2.2.1 HNE.out.2.1 HNE.out.2.2.2 rfl
       have hE1 := HE.out.cells
       clear k0 k1 k2 k3 k4 d0 d1 d2 b0 b1 b2 b3 b4 b5 f0 f2 f3 f4 f5 hb hnm HE; have HE := Lib.hid hE2; clear hE2; obtain ⟨k0, k1, k2, k3, k4, d0, d1, d2⟩ := HE.out.es.cells HC.out; obtain ⟨b0, b1, b2, b3, b4, b5, f0, f2, f3, f4, f5⟩ := HE.out.cells; obtain ⟨g0, _, _, _, _, _, e0, _, _, _, _⟩ := hE1; rotate_right)
    | (go_at_call 70; (refine (texts_any _ q4 (by have := HK6.out; have := HB4.out; omega) A3 _ n3 A6 _ n6 is tab HE.out.es.bag.val.2 (HTV.out _ HE.out.rd.val) (by have := HK6.out; have := HTL.out; omega) (by omega)).mono ?_); rintro e w10 ⟨hB, hm⟩; rw [HLI.out] at hm
       have hE0 := HE.out.below hB
       rcases hfb : firstBad (cnt b 2 3) (textBad tab is) with _ | i
       rw [hfb] at hm
       obtain ⟨u5, rfl, hr, ho⟩ := hm
       have hf6 := hr.form
       rw [HTX.out] at hf6
       obtain ⟨A7, n7, rfl⟩ := hf6
       have HFB := Lib.hid hfb
       have hE1 := hE0.cells
       have hlt := HE.out.es.step.2.size
       have hlt2 := (Array.getElem?_eq_some_iff.1 HE.out.box).1
       have hE2 := ((hE0.addCaps (Rob.of_row (T := fun k => k < w.heap.size ∨ k = w.heap.size ∨ k = w1.heap.size) hr (fun k hk hx => by have := ho k hk; have := HNE.out; omega) (by rw [HTX.out]; omega))).set (j := 4) (x := .slice A7 (cnt b 2 3) n7) H0.out (.inr (.inr rfl)) HNE.out.2.2.1 HNE.out.2.1 HNE.out.2.2.2 rfl)
       clear k0 k1 k2 k3 k4 d0 d1 d2 b0 b1 b2 b3 b4 b5 f0 f2 f3 f4 f5 hfb hE0 HE hB hr ho hlt hlt2; have HE := Lib.hid hE2; clear hE2; obtain ⟨k0, k1, k2, k3, k4, d0, d1, d2⟩ := HE.out.es.cells HC.out; obtain ⟨b0, b1, b2, b3, b4, b5, f0, f2, f3, f4, f5⟩ := HE.out.cells; obtain ⟨_, _, _, _, g4, _, _, _, _, e4, _⟩ := hE1
       rotate_left
       rw [hfb] at hm
       subst hm
       have HBAD := Lib.hid (TermPost.error (readAll_e1 (HE6.out i (by have := HK6.out; omega) HNB.out hfb)) hE0.es.step.2)
       clear hfb hE0 hB))
  all_goals (try exact ⟨rfl, HBAD.out⟩)
  obtain ⟨F, hF⟩ : ∃ l, flagsAt b q1 (cnt b 2 1) = l := ⟨_, rfl⟩
  obtain ⟨NN, hNN⟩ : ∃ l, (numsAt wide b q3 (cnt b 2 2)).map capOfNum = l := ⟨_, rfl⟩
  obtain ⟨TX, hTX⟩ : ∃ l, textsOf tab is = l := ⟨_, rfl⟩
  have hRF := HE7.out (by have := HK6.out; omega) HNB.out HFB.out
  rw [hF, hNN, hTX, show nms.take (cnt b 2 0 - 1) = nm by rw [← HNM.out, ← HIS.out.2.2, part_length b (by have := HQ.out; have := HG.out; have := HK6.out; omega)]] at hRF
  have hE0 := HE.out
  rw [hF, hNN, hTX] at hE0
  clear HE k0 k1 k2 k3 k4 d0 d1 d2 b0 b1 b2 b3 b4 b5 f0 f2 f3 f4 f5 g0 e0 g2 e2 g3 e3 g4 e4
  generalize w10.setCell ⟨w1.heap.size, 4, none⟩ (.slice A7 (cnt b 2 3) n7) = w11 at *
  have HEN : Hid (∀ N, TS (fun k => k < w.heap.size ∨ k = w.heap.size ∨ k = w1.heap.size) w (w11.drewN N) rb (.slice A b.length cap) b q6 (sizeOf wide) ka oa bc1 (fun W => CapsV W (.slice A1 (cnt b 2 1) n1) F ∧ CapsV W (.slice A2 (cnt b 2 2) n2) NN ∧ CapsV W (.slice A7 (cnt b 2 3) n7) TX) w.heap.size w1.heap.size nm wide (.slice A1 (cnt b 2 1) n1) (.slice A2 (cnt b 2 2) n2) (.slice A7 (cnt b 2 3) n7) (.slice none 0 0)) := Lib.hid fun N => by
    have h1 := hE0.below (drewN_below w11 N)
    exact ⟨⟨h1.es.step, h1.es.cnts, fun W hW => by have := h1.es.bag W hW; exact ⟨this.1.1.1.2, this.1.1.2, this.2⟩⟩, h1.box, h1.res⟩
  have HRF := Lib.hid hRF
  obtain ⟨c0, c1, c2, _, _, _⟩ := hE0.es.step.1.cells
  obtain ⟨b0, b1, b2, b3, b4, b5, f0, f2, f3, f4, f5⟩ := hE0.cells
  obtain ⟨z0, z1, z2, z3, z4, z5, y0, y1, y2, y3, y4, y5⟩ := termZero_facts hE0.res
  clear hE0 hRF hF hNN hTX
  by_cases hA : q6 = b.length
  · have hbq : (((q6 : Nat) : Int) == ((b.length : Nat) : Int)) = true := by simp [hA]
    have HA := Lib.hid hA
    clear hA
    have HRD := Lib.hid (readAll_short HRF.out (.inl HA.out.symm))
    go_quiet (fail)
    go_wp2
    have HE := HEN.out nq
    have HX := TS.close (t := ⟨nm, wide, F, NN, TX, []⟩) HE (HRD.out) (fun k hk => .inl hk) (.inr (.inl rfl)) (RobT.mk4 (fun W' h => (HE.es.bag W' h).1) (fun W' h => (HE.es.bag W' h).2.1) (fun W' h => (HE.es.bag W' h).2.2) (fun W' _ => extsV_nil W'))
    have hres := fun j => cell_of_row (storeTerm (w11.drewN nq) w.heap.size ⟨nm, wide, F, NN, TX, []⟩ (tri (.slice A1 (cnt b 2 1) n1) (.slice A2 (cnt b 2 2) n2) (.slice A7 (cnt b 2 3) n7)) (.slice none 0 0)) w.heap.size j _ _ _ (storeTerm_box (t := ⟨nm, wide, F, NN, TX, []⟩) (v := (tri (.slice A1 (cnt b 2 1) n1) (.slice A2 (cnt b 2 2) n2) (.slice A7 (cnt b 2 3) n7))) (ve := (.slice none 0 0)) HE.res)
    change bodyPost _ _ _ _ _ (storeTerm (w11.drewN nq) w.heap.size ⟨nm, wide, F, NN, TX, []⟩ (tri (.slice A1 (cnt b 2 1) n1) (.slice A2 (cnt b 2 2) n2) (.slice A7 (cnt b 2 3) n7)) (.slice none 0 0))
    generalize storeTerm (w11.drewN nq) w.heap.size ⟨nm, wide, F, NN, TX, []⟩ (tri (.slice A1 (cnt b 2 1) n1) (.slice A2 (cnt b 2 2) n2) (.slice A7 (cnt b 2 3) n7)) (.slice none 0 0) = W' at *
    exact bodyPost_ret (v := termVal ⟨nm, wide, F, NN, TX, []⟩ (tri (.slice A1 (cnt b 2 1) n1) (.slice A2 (cnt b 2 2) n2) (.slice A7 (cnt b 2 3) n7)) (.slice none 0 0)) (by simp [results, Tryz.results24, go_sem, hres]) rfl HX
  · have hbq : (((q6 : Nat) : Int) == ((b.length : Nat) : Int)) = false := by simp; omega
    have hlt6 : q6 < b.length := by have := HK6.out; omega
    have hev : evenUp q6 ≤ b.length := by unfold evenUp; omega
    obtain ⟨q7, hq7⟩ : ∃ q, evenUp q6 = q := ⟨_, rfl⟩
    rw [hq7] at hev
    have HEV := Lib.hid (And.intro hev hq7)
    have HNA := Lib.hid hA
    clear hlt6 hev hq7 hA
    go_quiet (fail)
    go_wp2_with (first
    | (go_at_call 66; (refine (even_or _ rb A cap b _ _ (HEN.out _).rd).mono ?_); rw [HEV.out.2]; rintro e w12 (⟨hb, rfl, ht⟩ | ⟨hk, rfl, hs⟩)
       exact absurd hb (by have := HEV.out.1; omega)
       have hE2 := (HEN.out nq).next (.inl HRB.out) HNE.out.1 HNE.out.2.1 hs
       clear HEN c0 c1 c2 b0 b1 b2 b3 b4 b5 f0 f2 f3 f4 f5 z0 z1 z2 z3 z4 z5 y0 y1 y2 y3 y4 y5 hs hk
       have HEN : Hid (∀ N, TS _ w (w12.drewN N) _ _ _ _ _ _ _ _ _ _ _ _ _ _ _ _ _) := Lib.hid fun N => hE2.below (drewN_below w12 N)
       obtain ⟨c0, c1, c2, _, _, _⟩ := hE2.es.step.1.cells
       obtain ⟨b0, b1, b2, b3, b4, b5, f0, f2, f3, f4, f5⟩ := hE2.cells
       obtain ⟨z0, z1, z2, z3, z4, z5, y0, y1, y2, y3, y4, y5⟩ := termZero_facts hE2.res
       clear hE2))
    by_cases hB : q7 = b.length
    · have hbq2 : (((q7 : Nat) : Int) == ((b.length : Nat) : Int)) = true := by simp [hB]
      have HRD := Lib.hid (readAll_short HRF.out (.inr (by rw [HEV.out.2]; exact hB.symm)))
      clear hB hbq
      go_quiet (fail)
      go_wp2
      have HE := HEN.out nq
      have HX := TS.close (t := ⟨nm, wide, F, NN, TX, []⟩) HE (HRD.out) (fun k hk => .inl hk) (.inr (.inl rfl)) (RobT.mk4 (fun W' h => (HE.es.bag W' h).1) (fun W' h => (HE.es.bag W' h).2.1) (fun W' h => (HE.es.bag W' h).2.2) (fun W' _ => extsV_nil W'))
      have hres := fun j => cell_of_row (storeTerm (w12.drewN nq) w.heap.size ⟨nm, wide, F, NN, TX, []⟩ (tri (.slice A1 (cnt b 2 1) n1) (.slice A2 (cnt b 2 2) n2) (.slice A7 (cnt b 2 3) n7)) (.slice none 0 0)) w.heap.size j _ _ _ (storeTerm_box (t := ⟨nm, wide, F, NN, TX, []⟩) (v := (tri (.slice A1 (cnt b 2 1) n1) (.slice A2 (cnt b 2 2) n2) (.slice A7 (cnt b 2 3) n7))) (ve := (.slice none 0 0)) HE.res)
      change bodyPost _ _ _ _ _ (storeTerm (w12.drewN nq) w.heap.size ⟨nm, wide, F, NN, TX, []⟩ (tri (.slice A1 (cnt b 2 1) n1) (.slice A2 (cnt b 2 2) n2) (.slice A7 (cnt b 2 3) n7)) (.slice none 0 0))
      generalize storeTerm (w12.drewN nq) w.heap.size ⟨nm, wide, F, NN, TX, []⟩ (tri (.slice A1 (cnt b 2 1) n1) (.slice A2 (cnt b 2 2) n2) (.slice A7 (cnt b 2 3) n7)) (.slice none 0 0) = W' at *
      exact bodyPost_ret (v := termVal ⟨nm, wide, F, NN, TX, []⟩ (tri (.slice A1 (cnt b 2 1) n1) (.slice A2 (cnt b 2 2) n2) (.slice A7 (cnt b 2 3) n7)) (.slice none 0 0)) (by simp [results, Tryz.results24, go_sem, hres]) rfl HX
    · have hbq2 : (((q7 : Nat) : Int) == ((b.length : Nat) : Int)) = false := by simp; omega
      have HNE2 : Hid (¬ (b.length = q6 ∨ b.length = evenUp q6)) := Lib.hid (by rw [HEV.out.2]; have := HNA.out; omega)
      clear hB hbq
      cases hx : readExt wide b q7 with
      | error q =>
        have HX0 := Lib.hid hx
        have HRD := Lib.hid (readAll_e2 HRF.out HNE2.out (by rw [HEV.out.2]; exact hx))
        clear hx
        go_quiet (fail)
        go_wp2_with (go_at_call 71; (refine (ext_any _ rb A cap b q7 wide (HEN.out _).rd (HTB.out.next (HEN.out _).es.step.2)).mono ?_); rintro e w14 ⟨ht, hm⟩; rw [HX0.out] at hm; subst hm; have HS := Lib.hid ((HEN.out nq).es.step.2.trans ht); clear ht)
        exact ⟨rfl, TermPost.error HRD.out HS.out⟩
      | ok r =>
        obtain ⟨x, fin2⟩ := r
        have HX0 := Lib.hid hx
        have HXL := Lib.hid (readExt_len hx)
        clear hx
        go_quiet (fail)
        go_wp2_with (first
        | (go_at_call 71; (refine (ext_any _ rb A cap b q7 wide (HEN.out _).rd (HTB.out.next (HEN.out _).es.step.2)).mono ?_); rintro e w14 ⟨ht, hm⟩; rw [HX0.out] at hm; obtain ⟨u6, rfl, hr, ho, hrd⟩ := hm
           obtain ⟨A8, n8, rfl⟩ := hr.form
           have hlt := (HEN.out nq).es.step.2.size
           have hlt2 := (Array.getElem?_eq_some_iff.1 (HEN.out nq).box).1
           have hE1 := (HEN.out nq).next (.inl HRB.out) HNE.out.1 HNE.out.2.1 (show Step _ rb (.slice A b.length cap) b fin2 (sizeOf wide) w14 from ⟨hrd, ht⟩)
           have hE2 := (hE1.add (Q := fun W => ExtsV W (.slice A8 x.length n8) x) (fun W' hW => ExtRow.reads (own_same hr fun k hk => hW.block k (own_lt hr k hk).2 (by have := ho k hk; have := HNE.out; omega)) (by have := HXL.out; omega))).set (j := 5) (x := .slice A8 x.length n8) H0.out (.inr (.inr rfl)) HNE.out.2.2.1 HNE.out.2.1 HNE.out.2.2.2 rfl
           clear HEN c0 c1 c2 b0 b1 b2 b3 b4 b5 f0 f2 f3 f4 f5 z0 z1 z2 z3 z4 z5 y0 y1 y2 y3 y4 y5 hr ho hrd ht hlt hlt2
           obtain ⟨_, _, _, _, _, g5, _, _, _, _, e5⟩ := hE1.cells
           have HEN := Lib.hid hE2
           clear hE1 hE2))
        generalize w14.setCell ⟨w1.heap.size, 5, none⟩ (.slice A8 x.length n8) = w15 at *
        have hE3 := HEN.out
        clear HEN g5 e5
        have HEN := Lib.hid fun N => hE3.below (drewN_below w15 N)
        obtain ⟨c0, c1, c2, _, _, _⟩ := hE3.es.step.1.cells
        obtain ⟨b0, b1, b2, b3, b4, b5, f0, f2, f3, f4, f5⟩ := hE3.cells
        obtain ⟨z0, z1, z2, z3, z4, z5, y0, y1, y2, y3, y4, y5⟩ := termZero_facts hE3.res
        clear hE3 hbq2
        by_cases hf : fin2 < b.length
        · have i1 : ((fin2 : Nat) : Int) < (b.length : Int) := by omega
          have CX := Lib.hid (fun W => fail_any W fin2 34)
          have HRD := Lib.hid (readAll_e3 HRF.out HNE2.out (by rw [HEV.out.2]; exact HX0.out) hf)
          clear hf
          go_quiet (fail)
          go_wp2_with (go_at_call 72; refine (CX.out _).mono ?_; rintro e w' ⟨rfl, rfl⟩)
          exact ⟨rfl, TermPost.error HRD.out (HEN.out _).es.step.2⟩
        · have i1 : ¬ ((fin2 : Nat) : Int) < (b.length : Int) := by omega
          have HRD := Lib.hid (readAll_ok HRF.out HNE2.out (by rw [HEV.out.2]; exact HX0.out) hf)
          clear hf
          go_quiet (fail)
          go_wp2
          have HE := HEN.out nq
          have HX := TS.close (t := ⟨nm, wide, F, NN, TX, x⟩) HE (HRD.out) (fun k hk => .inl hk) (.inr (.inl rfl)) (RobT.mk4 (fun W' h => (HE.es.bag W' h).1.1) (fun W' h => (HE.es.bag W' h).1.2.1) (fun W' h => (HE.es.bag W' h).1.2.2) (fun W' h => (HE.es.bag W' h).2))
          have hres := fun j => cell_of_row (storeTerm (w15.drewN nq) w.heap.size ⟨nm, wide, F, NN, TX, x⟩ (tri (.slice A1 (cnt b 2 1) n1) (.slice A2 (cnt b 2 2) n2) (.slice A7 (cnt b 2 3) n7)) (.slice A8 x.length n8)) w.heap.size j _ _ _ (storeTerm_box (t := ⟨nm, wide, F, NN, TX, x⟩) (v := (tri (.slice A1 (cnt b 2 1) n1) (.slice A2 (cnt b 2 2) n2) (.slice A7 (cnt b 2 3) n7))) (ve := (.slice A8 x.length n8)) HE.res)
          change bodyPost _ _ _ _ _ (storeTerm (w15.drewN nq) w.heap.size ⟨nm, wide, F, NN, TX, x⟩ (tri (.slice A1 (cnt b 2 1) n1) (.slice A2 (cnt b 2 2) n2) (.slice A7 (cnt b 2 3) n7)) (.slice A8 x.length n8))
          generalize storeTerm (w15.drewN nq) w.heap.size ⟨nm, wide, F, NN, TX, x⟩ (tri (.slice A1 (cnt b 2 1) n1) (.slice A2 (cnt b 2 2) n2) (.slice A7 (cnt b 2 3) n7)) (.slice A8 x.length n8) = W' at *
          exact bodyPost_ret (v := termVal ⟨nm, wide, F, NN, TX, x⟩ (tri (.slice A1 (cnt b 2 1) n1) (.slice A2 (cnt b 2 2) n2) (.slice A7 (cnt b 2 3) n7)) (.slice A8 x.length n8)) (by simp [results, Tryz.results24, go_sem, hres]) rfl HX
theorem term_any (w : World) (rb : Nat) (A : Option Addr) (cap : Nat) (b : List UInt8) (h : RdAt w rb (.slice A b.length cap) b 0 0) (hTb : RobP (fun k => k = rb) w Tabs) :
    Calls Tryz.prog 24 #[.pointer (some ⟨rb, 0, none⟩)] w (TermPost w rb b) := by
  by_cases hl : b.length < 12
  · exact term_early w rb A cap b h b.length 31 (fun W e w' hx => by obtain ⟨h1, h2⟩ := hx; rw [if_pos hl] at h2; exact ⟨h2, h1⟩) (readFirst_e1 hl)
  · by_cases h2 : shortAt b 0 ≠ 282 ∧ shortAt b 0 ≠ 542
    · exact term_early w rb A cap b h 0 30 (fun W e w' hx => by obtain ⟨h1, h3⟩ := hx; rw [if_neg hl, if_pos h2] at h3; exact ⟨h3, h1⟩) (readFirst_e2 hl h2)
    · cases hf : firstBad 5 (countBad b) with
      | some i => exact term_early w rb A cap b h (2 + 2 * i) 32 (fun W e w' hx => by obtain ⟨h1, h3⟩ := hx; rw [if_neg hl, if_neg h2, hf] at h3; exact ⟨h3, h1⟩) (readFirst_e3 hl h2 hf)
      | none => exact term_long w rb A cap b h hTb hl h2 hf
end Go.Proofs.YtcfgppjhgobboaaGreatDoor
