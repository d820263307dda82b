/-
  The reader of package tinfo: the extended part, walked.
-/
import Derived.Test.YtcfgppjhgobboaaGreatDoorTiExt1
import Derived.Test.YtcfgppjhgobboaaGreatDoorTiRob
namespace Go.Proofs.YtcfgppjhgobboaaGreatDoor
open Go.RowKit Go.Shelf Go.Lib
attribute [local go_sem] Oper.semAt_some

theorem ES.addCaps {T : Nat → Prop} {w W : World} {rb : Nat} {v : Value} {b : List UInt8} {pos size ka oa cap p : Nat} {P : World → Prop} {u : Value} {l : List CapD} (h : ES T w W rb v b pos size ka oa cap p P) (hq : Rob T W u l) : ES T w W rb v b pos size ka oa cap p (fun W => P W ∧ CapsV W u l) := h.add hq
theorem ES.addInts {T : Nat → Prop} {w W : World} {rb : Nat} {v : Value} {b : List UInt8} {pos size ka oa cap p : Nat} {P : World → Prop} {u : Value} {l : List Int} (h : ES T w W rb v b pos size ka oa cap p P) (hq : RobI T W u l) : ES T w W rb v b pos size ka oa cap p (fun W => P W ∧ IntsV W u l) := h.add hq
theorem evenUp_le (n : Nat) : n ≤ evenUp n := by unfold evenUp; omega
theorem extCnt_bd {b : List UInt8} {p : Nat} (h : firstBad 5 (extBad b p) = none) : (∀ i, i < 5 → 0 ≤ shortAt b (p + 2 * i)) ∧ cnt b p 0 + cnt b p 1 + cnt b p 2 ≤ 256 ∧ cnt b p 3 ≤ 32767 ∧ cnt b p 4 ≤ 32767 := by
  have h0 := firstBad_none.1 h
  have hn : ∀ i, i < 5 → 0 ≤ shortAt b (p + 2 * i) := fun i hi => by
    have := h0 i hi
    unfold extBad at this
    simp at this
    omega
  have h2 := h0 2 (by omega)
  unfold extBad at h2
  simp at h2
  have n0 := hn 0 (by omega)
  have n1 := hn 1 (by omega)
  have n2 := hn 2 (by omega)
  have b3 := short_bd b (p + 2 * 3)
  have b4 := short_bd b (p + 2 * 4)
  simp only [Nat.mul_zero, Nat.add_zero, Nat.mul_one] at n0 n1
  unfold cnt
  simp only [Nat.mul_zero, Nat.add_zero, Nat.mul_one]
  refine ⟨hn, ?_, ?_, ?_⟩
  · have := h2.2
    rw [show (2 * 2 : Nat) = 4 from rfl] at n2 ⊢
    omega
  · omega
  · omega
theorem ext_short (w : World) (rb : Nat) (A : Option Addr) (cap : Nat) (b : List UInt8) (p : Nat) (wide : Bool) (h : RdAt w rb (.slice A b.length cap) b p (sizeOf wide)) (hl : b.length < p + 10) :
    Calls Tryz.prog 71 #[.pointer (some ⟨rb, 0, none⟩)] w (ExtrPost w rb (.slice A b.length cap) b p wide) := by
  obtain ⟨c0, c1, c2, _, _, _⟩ := h.cells
  have CT := Lib.hid (exth_short w rb _ b p _ h hl)
  have HE := Lib.hid (readExt_e1 (wide := wide) hl)
  have HL := Lib.hid hl
  clear h hl
  go_enter Tryz.func71, Tryz.ntmps71
  go_wp2_with (go_at_call 118; (refine (CT.out).mono ?_); rintro e w' ⟨ht, hm⟩; rw [if_pos HL.out] at hm; subst hm; have HS := Lib.hid ht; clear ht)
  exact ⟨rfl, ExtrPost.error HE.out HS.out⟩
theorem ext_counts (w : World) (rb : Nat) (A : Option Addr) (cap : Nat) (b : List UInt8) (p : Nat) (wide : Bool) (h : RdAt w rb (.slice A b.length cap) b p (sizeOf wide)) (hl : ¬ b.length < p + 10) (i : Nat) (hf : firstBad 5 (extBad b p) = some i) :
    Calls Tryz.prog 71 #[.pointer (some ⟨rb, 0, none⟩)] w (ExtrPost w rb (.slice A b.length cap) b p wide) := by
  obtain ⟨c0, c1, c2, _, _, _⟩ := h.cells
  have CT := Lib.hid (exth_long w rb A cap b p _ h hl)
  have HE := Lib.hid (readExt_e2 (wide := wide) hl hf)
  have HL := Lib.hid (And.intro hl hf)
  clear h hl hf
  go_enter Tryz.func71, Tryz.ntmps71
  go_wp2_with (go_at_call 118; (refine (CT.out).mono ?_); rintro e w' ⟨ht, hm⟩; rw [if_neg HL.out.1, HL.out.2] at hm; subst hm; have HS := Lib.hid ht; clear ht)
  exact ⟨rfl, ExtrPost.error HE.out HS.out⟩
theorem row_off {w : World} {rb : Nat} {u : Value} (hlt : rb < w.heap.size) (ho : ∀ k, u.ownBlock = some k → w.heap.size ≤ k) : ∀ k, u.ownBlock = some k → ¬ k = rb := fun k hk e => by have := ho k hk; omega
theorem is_bad {tab : List UInt8} {is : List Int} {n : Nat} (hn : is.length = n) (h : firstBad n (textBad tab is) = none) : ∀ z ∈ is, (textCap tab z).isNone = false := fun z hz => by
  obtain ⟨i, hi, rfl⟩ := List.mem_iff_getElem.1 hz
  have := firstBad_none.1 h i (by omega)
  unfold textBad at this
  rwa [List.getD_eq_getElem?_getD, List.getElem?_eq_getElem hi] at this
theorem shorts_mem {b : List UInt8} {p n : Nat} {z : Int} (h : z ∈ shortsAt b p n) : -32768 ≤ z ∧ z ≤ 32767 := by
  unfold shortsAt numsAt at h
  obtain ⟨i, _, rfl⟩ := List.mem_map.1 h
  exact short_bd _ _
theorem texts_len {tab : List UInt8} {is : List Int} : ∀ c ∈ textsOf tab is, c.text.length ≤ 1000 := fun c hc => by
  unfold textsOf at hc
  obtain ⟨z, _, rfl⟩ := List.mem_map.1 hc
  unfold textCap
  split
  · cases ht : textP tab z with
    | none => simp [cap0]
    | some t => simpa using textP_len ht
  · simp
theorem presentP_le (l : List Int) : presentP l ≤ l.length := List.countP_le_length
def kinds3 (a b c : Value) : Nat → Value
  | 0 => a
  | 1 => b
  | _ => c
theorem kinds_hu {w : World} {a b c : Value} {f n s : List CapD} (h1 : CapsV w a f) (h2 : CapsV w b n) (h3 : CapsV w c s) (t : TypeId) : ∀ k, k < 3 → (w.alloc (.cells #[a, b, c] t)).cell? ⟨w.heap.size, k, none⟩ = some (kinds3 a b c k) ∧ CapsV (w.alloc (.cells #[a, b, c] t)) (kinds3 a b c k) (listK f n s k) := by
  have hb : Below w.heap.size w (w.alloc (.cells #[a, b, c] t)) := (Below.refl _ _).alloc (Nat.le_refl _) _
  have hx := World.alloc_heap_new w (.cells #[a, b, c] t)
  intro k hk
  match k, hk with
  | 0, _ => exact ⟨cell_of_row _ _ 0 _ _ _ hx, h1.below hb⟩
  | 1, _ => exact ⟨cell_of_row _ _ 1 _ _ _ hx, h2.below hb⟩
  | 2, _ => exact ⟨cell_of_row _ _ 2 _ _ _ hx, h3.below hb⟩
set_option maxRecDepth 100000 in
set_option maxHeartbeats 16000000 in
theorem ext_long (w : World) (rb : Nat) (A : Option Addr) (cap : Nat) (b : List UInt8) (p : Nat) (wide : Bool) (h : RdAt w rb (.slice A b.length cap) b p (sizeOf wide)) (hT : RobP (fun k => k = rb) w Tabs) (hl : ¬ b.length < p + 10) (hf : firstBad 5 (extBad b p) = none) :
    Calls Tryz.prog 71 #[.pointer (some ⟨rb, 0, none⟩)] w (ExtrPost w rb (.slice A b.length cap) b p wide) := by
  obtain ⟨c0, c1, c2, _, _, _⟩ := h.cells
  have CT := Lib.hid (exth_long w rb A cap b p _ h hl)
  have HL := Lib.hid (And.intro hl hf)
  have HTb := Lib.hid hT
  have HRB := Lib.hid h.lt
  obtain ⟨hnn, hsm, b3, b4⟩ := extCnt_bd hf
  have HC := Lib.hid hnn
  have HLEN := Lib.hid h.val.size
  obtain ⟨al, hal⟩ : ∃ al, cnt b p 0 + cnt b p 1 + cnt b p 2 = al := ⟨_, rfl⟩
  obtain ⟨q2, hq2⟩ : ∃ q, evenUp (p + 10 + cnt b p 0) = q := ⟨_, rfl⟩
  obtain ⟨q3, hq3⟩ : ∃ q, q2 + cnt b p 1 * sizeOf wide = q := ⟨_, rfl⟩
  obtain ⟨q4, hq4⟩ : ∃ q, q3 + cnt b p 2 * 2 = q := ⟨_, rfl⟩
  obtain ⟨q5, hq5⟩ : ∃ q, q4 + al * 2 = q := ⟨_, rfl⟩
  have hlay : lay2 wide p (cnt b p) = ⟨p + 10, q2, q3, q4, q5, q5 + cnt b p 4⟩ := by rw [lay2_eq, hal, hq2, hq3, hq4, hq5]
  have HSH : Hid (b.length < q5 + cnt b p 4 → readExt wide b p = .error (b.length, 31)) := Lib.hid (fun h => readExt_e3 hl hf (by rw [hlay]; exact h))
  have HQ1 : Hid (p + 10 + cnt b p 0 ≤ q2) := Lib.hid (hq2 ▸ evenUp_le _)
  have HQ := Lib.hid (And.intro hq2 (And.intro hq3 (And.intro hq4 hq5)))
  have HG : Hid (q2 ≤ q3 ∧ q3 ≤ q4 ∧ q4 ≤ q5) := Lib.hid (by refine ⟨by rw [← hq3]; exact Nat.le_add_right _ _, by omega, by omega⟩)
  obtain ⟨is, his⟩ : ∃ l, shortsAt b q3 (cnt b p 2) = l := ⟨_, rfl⟩
  obtain ⟨ps, hps⟩ : ∃ l, shortsAt b q4 al = l := ⟨_, rfl⟩
  obtain ⟨tab, htab⟩ : ∃ l, part b q5 (cnt b p 4) = l := ⟨_, rfl⟩
  have hE4 := @readExt_e4 b p wide hl hf
  have hE5 := fun i => @readExt_e5 b p wide i hl hf
  have hE6 := fun i => @readExt_e6 b p wide i hl hf
  have hE7 := @readExt_ok b p wide hl hf
  unfold extTab at hE6 hE7
  rw [hlay] at hE4 hE5 hE6 hE7
  simp only [hal, his, hps, htab] at hE4 hE5 hE6 hE7
  have HE4 := Lib.hid hE4
  have HE5 := Lib.hid hE5
  have HE6 := Lib.hid hE6
  have HE7 := Lib.hid hE7
  have HIS := Lib.hid (And.intro his (And.intro hps htab))
  have HLI : Hid (is.length = cnt b p 2 ∧ ps.length = al) := Lib.hid ⟨by rw [← his, shorts_length], by rw [← hps, shorts_length]⟩
  have HSUM : Hid (((cnt b p 0 : Nat) : Int) + ((cnt b p 1 : Nat) : Int) + ((cnt b p 2 : Nat) : Int) = (al : Int)) := Lib.hid (by omega)
  have HAL := Lib.hid hal
  have j0 : ((cnt b p 0 : Nat) : Int) ≤ 256 := by omega
  have j1 : ((cnt b p 1 : Nat) : Int) ≤ 256 := by omega
  have j2 : ((cnt b p 2 : Nat) : Int) ≤ 256 := by omega
  have j3 : ((cnt b p 3 : Nat) : Int) ≤ 32767 := by omega
  have j4 : ((cnt b p 4 : Nat) : Int) ≤ 32767 := by omega
  have ja : (al : Int) ≤ 256 := by omega
  have HPR : Hid (presentP is ≤ 256) := Lib.hid (by have := presentP_le is; rw [HLI.out.1] at this; omega)
  clear h hl hf hT hnn hsm b3 b4 hal hlay hq2 hq3 hq4 hq5 his hps htab hE4 hE5 hE6 hE7
  go_enter Tryz.func71, Tryz.ntmps71
  go_wp2_with (first
    | (go_at_call 118; (refine (CT.out).mono ?_); rintro e w1 ⟨ht, hm⟩; rw [if_neg HL.out.1, HL.out.2] at hm; obtain ⟨B1, bc1, rfl, hrob, hrd⟩ := hm
       obtain ⟨ka, oa, rfl, _, _⟩ := hrob.val.cell (shorts_at b p 5 0 (by omega))
       have HE := Lib.hid (show ES (fun k => k = rb) w w1 rb (.slice A b.length cap) b (p + 10) (sizeOf wide) ka oa bc1 p Tabs from ⟨⟨hrd, ht⟩, fun W' h => hrob W' (h.mono fun k _ hk => by rw [hk]; exact HRB.out), HTb.out.next ht⟩)
       clear c0 c1 c2 hrob hrd ht; obtain ⟨k0, k1, k2, k3, k4, d0, d1, d2⟩ := HE.out.cells HC.out)
    | (go_at_call 65; (refine (flags_or _ rb A cap b _ _ (cnt b p 0) HE.out.step.1 (by omega)).mono ?_); rintro e w2 (⟨hb, rfl, ht⟩ | ⟨hk, u1, rfl, hr, ho, hs⟩)
       have HBAD := Lib.hid (ExtrPost.error (v := .slice A b.length cap) (HSH.out (by have := HQ1.out; have := HG.out; omega)) (HE.out.step.2.trans ht))
       clear ht hb
       rotate_left
       have hf := hr.form
       rw [flagsAt_length] at hf
       obtain ⟨A1, n1, rfl⟩ := hf
       have hE2 := (HE.out.next rfl hs).addCaps (Rob.of_row (T := fun k => k = rb) hr (row_off HE.out.step.1.lt ho) (by rw [flagsAt_length]; omega))
       clear HE k0 k1 k2 k3 k4 d0 d1 d2 hr ho hs hk; have HE := Lib.hid hE2; clear hE2; obtain ⟨k0, k1, k2, k3, k4, d0, d1, d2⟩ := HE.out.cells HC.out; rotate_right)
    | (go_at_call 66; (refine (even_or _ rb A cap b _ _ HE.out.step.1).mono ?_); rw [HQ.out.1]; rintro e w3 (⟨hb, rfl, ht⟩ | ⟨hk, rfl, hs⟩)
       have HBAD := Lib.hid (ExtrPost.error (v := .slice A b.length cap) (HSH.out (by have := HG.out; omega)) (HE.out.step.2.trans ht))
       clear ht hb
       rotate_left
       have hE2 := HE.out.next rfl hs
       clear HE k0 k1 k2 k3 k4 d0 d1 d2 hs hk; have HE := Lib.hid hE2; clear hE2; obtain ⟨k0, k1, k2, k3, k4, d0, d1, d2⟩ := HE.out.cells HC.out; rotate_right)
    | (go_at_call 67; (refine (numbers_or _ rb A cap b _ wide (cnt b p 1) HE.out.step.1 (by omega)).mono ?_); rw [HQ.out.2.1]; rintro e w4 (⟨hb, rfl, ht⟩ | ⟨hk2, u2, rfl, hr, ho, hs⟩)
       have HBAD := Lib.hid (ExtrPost.error (v := .slice A b.length cap) (HSH.out (by have := HG.out; omega)) (HE.out.step.2.trans ht))
       clear ht hb
       rotate_left
       have hf := hr.form
       rw [List.length_map, numsAt_length] at hf
       obtain ⟨A2, n2, rfl⟩ := hf
       have hE2 := (HE.out.next rfl hs).addCaps (Rob.of_row (T := fun k => k = rb) hr (row_off HE.out.step.1.lt ho) (by rw [List.length_map, numsAt_length]; omega))
       clear HE k0 k1 k2 k3 k4 d0 d1 d2 hr ho hs hk2; have HE := Lib.hid hE2; clear hE2; obtain ⟨k0, k1, k2, k3, k4, d0, d1, d2⟩ := HE.out.cells HC.out; rotate_right)
    | (go_at_call 68; (refine (shorts_or _ rb A cap b _ _ (cnt b p 2) HE.out.step.1 (by omega)).mono ?_); rw [HQ.out.2.2.1, HIS.out.1]; rintro e w5 (⟨hb, rfl, ht⟩ | ⟨hk3, u3, rfl, hr, ho, hs⟩)
       have HBAD := Lib.hid (ExtrPost.error (v := .slice A b.length cap) (HSH.out (by have := HG.out; omega)) (HE.out.step.2.trans ht))
       clear ht hb
       rotate_left
       have hR := RobI.of_row (T := fun k => k = rb) hr (row_off HE.out.step.1.lt ho) (by rw [HLI.out.1]; omega)
       obtain ⟨A3, n3, hB3, _⟩ := hr.reads_n HLI.out.1 (by omega)
       subst hB3
       have hE2 := (HE.out.next rfl hs).addInts hR
       clear HE k0 k1 k2 k3 k4 d0 d1 d2 hr ho hs hR hk3; have HE := Lib.hid hE2; clear hE2; obtain ⟨k0, k1, k2, k3, k4, d0, d1, d2⟩ := HE.out.cells HC.out; rotate_right))
  all_goals (try exact ⟨rfl, HBAD.out⟩)
  have hE2 := HE.out.below ((Below.refl _ _).drew)
  go_still_tail 12, (by kernel_rfl)
  change wpList _ _ _ _ _ w5.drew
  clear HE k0 k1 k2 k3 k4 d0 d1 d2
  generalize w5.drew = w6 at *
  have HE := Lib.hid hE2
  clear hE2
  obtain ⟨k0, k1, k2, k3, k4, d0, d1, d2⟩ := HE.out.cells HC.out
  go_wp2_with (first
    | (go_at_call 68; (rw [HSUM.out]); (refine (shorts_or _ rb A cap b _ _ al HE.out.step.1 (by omega)).mono ?_); rw [HQ.out.2.2.2, HIS.out.2.1]; rintro e w7 (⟨hb, rfl, ht⟩ | ⟨hk4, u4, rfl, hr, ho, hs⟩)
       have HBAD := Lib.hid (ExtrPost.error (v := .slice A b.length cap) (HSH.out (by omega)) (HE.out.step.2.trans ht))
       clear ht hb
       rotate_left
       have hR := RobI.of_row (T := fun k => k = rb) hr (row_off HE.out.step.1.lt ho) (by rw [HLI.out.2]; omega)
       obtain ⟨A4, n4, hB4, _⟩ := hr.reads_n HLI.out.2 (by omega)
       subst hB4
       have hE2 := (HE.out.next rfl hs).addInts hR
       clear HE k0 k1 k2 k3 k4 d0 d1 d2 hr ho hs hR hk4; have HE := Lib.hid hE2; clear hE2; obtain ⟨k0, k1, k2, k3, k4, d0, d1, d2⟩ := HE.out.cells HC.out; rotate_right)
    | (go_at_call 64; (refine (take_or _ rb A cap b _ _ (cnt b p 4) HE.out.step.1 (by omega)).mono ?_); rintro e w8 (⟨hb, rfl, ht⟩ | ⟨hk5, rfl, hs⟩)
       have HBAD := Lib.hid (ExtrPost.error (v := .slice A b.length cap) (HSH.out hb) (HE.out.step.2.trans ht))
       clear ht hb
       rotate_left
       have hBy := RobP.bytes hs.1 hk5
       rw [HIS.out.2.2] at hBy
       obtain ⟨A5, hA5⟩ : ∃ X, tailA A cap q5 1 = X := ⟨_, rfl⟩
       obtain ⟨n5, hn5⟩ : ∃ X, cap - q5 = X := ⟨_, rfl⟩
       rw [hA5, hn5] at hBy
       rw [hA5, hn5]
       have hE2 := (HE.out.next rfl hs).add hBy
       have HK5 := Lib.hid hk5
       clear HE k0 k1 k2 k3 k4 d0 d1 d2 hs hk5 hA5 hn5 hBy; have HE := Lib.hid hE2; clear hE2; obtain ⟨k0, k1, k2, k3, k4, d0, d1, d2⟩ := HE.out.cells HC.out; rotate_right))
  all_goals (try exact ⟨rfl, HBAD.out⟩)
  have HEN := Lib.hid (fun N => HE.out.below (drewN_below w8 N))
  have CP : Hid (∀ N, Calls Tryz.prog 119 #[.slice A3 (cnt b p 2) n3] (w8.drewN N) fun e w' => e = .returned (.int .i64 (presentP is : Nat)) ∧ w' = w8.drewN N) := Lib.hid fun N => (countPresent_any _ _ _ _ is (HEN.out N).bag.val.1.1.2).mono fun _ _ hx => ⟨hx.1, hx.2.symm⟩
  have HQB : Hid (q3 ≤ 140737488351232 ∧ q4 ≤ 140737488351232) := Lib.hid (by have := HG.out; have := HK5.out; have := HLEN.out; omega)
  have HNL : Hid (¬ b.length < q5 + cnt b p 4) := Lib.hid (by have := HK5.out; omega)
  have HTL : Hid (tab.length = cnt b p 4) := Lib.hid (by rw [← HIS.out.2.2]; exact part_length b HK5.out)
  have CTX : Hid (∀ N, Calls Tryz.prog 70 #[.int .i64 q3, .slice A3 (cnt b p 2) n3, .slice A5 (cnt b p 4) n5] (w8.drewN N) (TextsPost (w8.drewN N) q3 tab is)) := Lib.hid fun N => texts_any _ q3 HQB.out.1 A3 _ n3 A5 _ n5 is tab (HEN.out N).bag.val.1.1.2 (HEN.out N).bag.val.2 (by rw [HTL.out]; omega) (by omega)
  have HMEM : Hid (∀ z ∈ is, -32768 ≤ z ∧ z ≤ 32767) := Lib.hid fun z hz => by rw [← HIS.out.1] at hz; exact shorts_mem hz
  generalize presentP is = pr at *
  have r0 : (pr : Int) ≤ 256 := by have := HPR.out; omega
  have hwr : IntKind.i64.wrap ((pr : Int) + (al : Int)) = (pr : Int) + (al : Int) := IntWalk.i64_in _ (by constructor <;> omega)
  by_cases hcnt : cnt b p 3 = pr + al
  · have hbq : (((cnt b p 3 : Nat) : Int) != (pr : Int) + (al : Int)) = false := by simp; omega
    have HCN : Hid (¬ cnt b p 3 ≠ pr + al) := Lib.hid (fun hx => hx hcnt)
    clear hcnt
    cases hfb : firstBad (cnt b p 2) (textBad tab is) with
    | some i =>
      have HFB := Lib.hid hfb
      clear hfb
      go_quiet ((go_at_call 119; exact Calls.quiet_of_same (CP.out _)))
      clear hwr
      go_wp2_with (go_at_call 70; (refine (CTX.out _).mono ?_); rintro e w10 ⟨hB, hm⟩; rw [HLI.out.1, HFB.out] at hm; subst hm; have HS := Lib.hid ((HEN.out _).below hB).step.2; clear hB)
      exact ⟨rfl, ExtrPost.error (HE5.out i HNL.out HCN.out HFB.out) HS.out⟩
    | none =>
      have HFB := Lib.hid hfb
      have hzz := is_bad HLI.out.1 hfb
      obtain ⟨ed, hed, hedl⟩ : ∃ ed : Nat, (endOf is (textsOf tab is) (-1, 0)).2 = (ed : Int) ∧ ed ≤ tab.length := by
        have := endOf_le is (-1) 0 hzz (by omega) (by omega) (by omega)
        exact ⟨(endOf is (textsOf tab is) (-1, 0)).2.toNat, by omega, by omega⟩
      have HED := Lib.hid (And.intro hed hedl)
      have CE : Hid (∀ (W : World) (B : Option Addr) (m : Nat) (n : Nat), IntsV W (.slice A3 (cnt b p 2) n3) is → CapsV W (.slice B m n) (textsOf tab is) → m = cnt b p 2 → Calls Tryz.prog 121 #[.slice A3 (cnt b p 2) n3, .slice B m n] W fun e w' => e = .returned (.int .i64 (ed : Nat)) ∧ ∃ N, w' = W.drewN N) := Lib.hid (fun W B m n h1 h2 h3 => by
        have := endOfTexts_any W A3 _ n3 is B m n (textsOf tab is) h1 h2 h3 HMEM.out texts_len
        rwa [hed] at this)
      have hsl := slice_tail (P := Tryz.prog) 22 5 Tryz.underlying22 1 size_u8 A5 (cnt b p 4) n5 ed (by rw [← HTL.out]; exact hedl)
      have hT : Tryz.prog.underlying 22 = some (.slice 5) := Tryz.underlying22
      have hE6 := fun i => HE6.out i HNL.out HCN.out HFB.out
      have hE7 := HE7.out HNL.out HCN.out HFB.out
      rw [hed, Int.toNat_natCast] at hE6 hE7
      have HE8 := Lib.hid hE6
      have HE9 := Lib.hid hE7
      have HTX : Hid ((textsOf tab is).length = cnt b p 2) := Lib.hid (by unfold textsOf; rw [List.length_map, HLI.out.1])
      have HDR : Hid (∀ W, BytesV W (.slice A5 (cnt b p 4) n5) tab → BytesV W (.slice (tailA A5 n5 ed 1) (cnt b p 4 - ed) (n5 - ed)) (tab.drop ed)) := Lib.hid (fun W hW => by have := hW.drop hedl; rwa [HTL.out] at this)
      have CN : Hid (∀ (W : World), IntsV W (.slice A4 al n4) ps → BytesV W (.slice (tailA A5 n5 ed 1) (cnt b p 4 - ed) (n5 - ed)) (tab.drop ed) → Tabs W → Calls Tryz.prog 120 #[.int .i64 q4, .slice A4 al n4, .slice (tailA A5 n5 ed 1) (cnt b p 4 - ed) (n5 - ed)] W (NamesAtPost W q4 (tab.drop ed) ps)) :=
        Lib.hid fun W h1 h2 h3 => namesAt_any W q4 HQB.out.2 A4 _ n4 _ _ _ ps (tab.drop ed) h1 h2 (by rw [List.length_drop, HTL.out]; omega) (by omega) h3
      clear hfb hzz hed hedl hE6 hE7
      generalize tab.drop ed = tab2 at *
      cases hnb : firstBad al (nameBad tab2 ps) with
      | some i =>
        have HNB := Lib.hid hnb
        clear hnb
        go_quiet ((go_at_call 119; exact Calls.quiet_of_same (CP.out _)))
        clear hwr
        go_wp2_with (first
          | (go_at_call 70; (refine (CTX.out _).mono ?_); rintro e w10 ⟨hB, hm⟩; rw [HLI.out.1, HFB.out] at hm; obtain ⟨u5, rfl, hr, ho⟩ := hm; have hf6 := hr.form; rw [HTX.out] at hf6; obtain ⟨A6, n6, rfl⟩ := hf6; have hE10 := ((HEN.out _).below hB).addCaps (Rob.of_row (T := fun k => k = rb) hr (row_off (HEN.out _).step.1.lt ho) (by rw [HTX.out]; omega)); have HE10 := Lib.hid hE10; have HN10 := Lib.hid (fun N => hE10.below (drewN_below w10 N)); clear hB hr ho hE10)
          | (go_at_call 121; (refine (CE.out _ _ _ _ HE10.out.bag.val.1.1.1.2 HE10.out.bag.val.2 rfl).mono ?_); rintro e w11 ⟨rfl, N2, rfl⟩)
          | (refine wpList_slice_run hsl hT (by rfl) _ _ _ (by rfl) (by rfl) (by rfl) (by rfl) ?_)
          | (go_at_call 120; (refine (CN.out _ (HN10.out _).bag.val.1.1.2 (HDR.out _ (HN10.out _).bag.val.1.2) (HN10.out _).bag.val.1.1.1.1.1.1).mono ?_); rintro e w12 ⟨hB, hm⟩; rw [HLI.out.2, HNB.out] at hm; subst hm; have HS := Lib.hid ((HN10.out _).below hB).step.2; clear hB))
        exact ⟨rfl, ExtrPost.error (HE8.out i HNB.out) HS.out⟩
      | none =>
        have HNB := Lib.hid hnb
        clear hnb
        have HSM : Hid ((ps.map (nameOf tab2)).length = al) := Lib.hid (by rw [List.length_map, HLI.out.2])
        go_quiet ((go_at_call 119; exact Calls.quiet_of_same (CP.out _)))
        clear hwr
        go_wp2_with (first
          | (go_at_call 70; (refine (CTX.out _).mono ?_); rintro e w10 ⟨hB, hm⟩; rw [HLI.out.1, HFB.out] at hm; obtain ⟨u5, rfl, hr, ho⟩ := hm; have hf6 := hr.form; rw [HTX.out] at hf6; obtain ⟨A6, n6, rfl⟩ := hf6; have hE10 := ((HEN.out _).below hB).addCaps (Rob.of_row (T := fun k => k = rb) hr (row_off (HEN.out _).step.1.lt ho) (by rw [HTX.out]; omega)); have HE10 := Lib.hid hE10; have HN10 := Lib.hid (fun N => hE10.below (drewN_below w10 N)); clear hB hr ho hE10)
          | (go_at_call 121; (refine (CE.out _ _ _ _ HE10.out.bag.val.1.1.1.2 HE10.out.bag.val.2 rfl).mono ?_); rintro e w11 ⟨rfl, N2, rfl⟩)
          | (refine wpList_slice_run hsl hT (by rfl) _ _ _ (by rfl) (by rfl) (by rfl) (by rfl) ?_)
          | (go_at_call 120; (refine (CN.out _ (HN10.out _).bag.val.1.1.2 (HDR.out _ (HN10.out _).bag.val.1.2) (HN10.out _).bag.val.1.1.1.1.1.1).mono ?_); rintro e w12 ⟨hB, hm⟩; rw [HLI.out.2, HNB.out] at hm; obtain ⟨u6, rfl, hr, ho⟩ := hm; have hf6 := hr.form; rw [HSM.out] at hf6; obtain ⟨A7, n7, rfl⟩ := hf6; have HE12 := Lib.hid (And.intro ((HN10.out _).below hB) (hr.reads (by rw [HSM.out]; omega))); clear hB hr ho)
          | (go_at_call 122; (refine (extsOf_any _ A7 al n7 w12.heap.size (ps.map (nameOf tab2)) (flagsAt b (p + 10) (cnt b p 0)) ((numsAt wide b q2 (cnt b p 1)).map capOfNum) (textsOf tab is) (kinds3 (.slice A1 _ n1) (.slice A2 _ n2) (.slice A6 _ n6)) (HE12.out.2.below ((Below.refl _ _).alloc (Nat.le_refl _) _)) (by omega) (by simp) (kinds_hu HE12.out.1.bag.val.1.1.1.1.1.2 HE12.out.1.bag.val.1.1.1.1.2 HE12.out.1.bag.val.2 _) (by rw [flagsAt_length, List.length_map, numsAt_length, HTX.out, HAL.out]; exact Nat.le_refl _)).mono ?_); rintro e w13 ⟨hB, u7, rfl, hr, ho⟩; rw [extsAll_eq (by rw [flagsAt_length, List.length_map, numsAt_length, HTX.out, HAL.out, HSM.out]; exact Nat.le_refl _)] at hr; have HS := Lib.hid (HE12.out.1.below (((Below.refl _ _).alloc (Nat.le_refl _) _).trans (hB.mono (by simp)))); have HR7 := Lib.hid (And.intro hr ho); obtain ⟨A8, n8, rfl⟩ := hr.form; clear hB hr ho))
        go_ret
        exact ⟨HS.out.step.2, by rw [HE9.out HNB.out]; exact ⟨_, rfl, HR7.out.1, fun k hk => Nat.le_trans (Nat.le_trans HE12.out.1.step.2.size (by simp)) (HR7.out.2 k hk), HS.out.step.1⟩⟩
  · have hbq : (((cnt b p 3 : Nat) : Int) != (pr : Int) + (al : Int)) = true := by simp; omega
    have CX := Lib.hid (fun W => fail_at W ((p : Int) + 6) (p + 6) 32 (by omega))
    have HS := Lib.hid (fun N => (HEN.out N).step.2)
    have hpb : (p : Int) ≤ 140737488351232 := by have := HQ1.out; have := HG.out; have := HQB.out; omega
    have HCN : Hid (cnt b p 3 ≠ pr + al) := Lib.hid hcnt
    clear hcnt
    go_quiet ((go_at_call 119; exact Calls.quiet_of_same (CP.out _)))
    clear hwr
    go_wp2_with (go_at_call 72; refine (CX.out _).mono ?_; rintro e w' ⟨rfl, rfl⟩)
    exact ⟨rfl, ExtrPost.error (HE4.out HNL.out HCN.out) (HS.out _)⟩
end Go.Proofs.YtcfgppjhgobboaaGreatDoor
