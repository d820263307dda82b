/-
  Two file systems that go on alike hold the same: the law package's equal returns true. Nothing is assumed.
-/
import Derived.Test.YthpkfgjjaieikaaGreatDoorFsStep2
import Derived.Test.YthpkfgjjaieikaaGreatDoorFsWrite
import Derived.Test.YthpkfgjjaieikaaGreatDoorFsBegun
import Derived.Sort.QuietIn
import Derived.Test.YthpkfgjjaieikaaGreatDoorQuietRound
import Derived.Outline
namespace Go.Proofs.YthpkfgjjaieikaaGreatDoor
open Go.RowKit Go.Shelf Go.Lib Go.Maps
attribute [local go_sem] Oper.semAt_some

/-- what stays while the files are counted -/
structure EqW (w : World) (FP FR : Nat → Prop) (b bm rb : Nat) (es : List Ent) (s : St) (v : Value) (fs : List Ent) (r : RSt) (kb : Nat) (u : Value) (W : World) : Prop where
  both : Both W FP FR b bm rb es s v fs r
  box : Box W w.heap.size (.pointer (some ⟨rb, 0, none⟩)) 25
  res : Box W (w.heap.size + 1) (.bool false) 4
  all : Box W kb u 80
  row : W.ownsRow (kb + 1) 9 1 u es.length ((pathsOf es).map str)
  below : Below w.heap.size w W
theorem EqW.keep {w : World} {FP FR : Nat → Prop} {b bm rb : Nat} {es : List Ent} {s : St} {v : Value} {fs : List Ent} {r : RSt} {kb : Nat} {u : Value} {W W' : World} (h : EqW w FP FR b bm rb es s v fs r kb u W) (hw : ∀ k, FP k ∨ FR k → k < w.heap.size) (hkb : w.heap.size + 2 ≤ kb) {B : Nat} (hB : B ≤ W.heap.size) (hu : ∀ k, u.ownBlock = some k → k < B) (hk : kb < B) (ht : Touch (fun k => B ≤ k) W W') : EqW w FP FR b bm rb es s v fs r kb u W' := by
  refine ⟨h.both.same (fun k hk2 hF => ht.block k hk2 (by have := hw k hF; omega)) ht.size, h.box.same (ht.block _ h.box.lt (by omega)), h.res.same (ht.block _ h.res.lt (by omega)), h.all.same (ht.block _ h.all.lt (by omega)), ?_, h.below.trans (ht.below h.below.size fun k hk3 => by omega)⟩
  obtain ⟨h1, h2⟩ := h.row
  refine ⟨h1, ?_⟩
  rcases h2 with h2 | ⟨g, cap, cur, hv, hg, hh, rr⟩
  · exact .inl h2
  · exact .inr ⟨g, cap, cur, hv, hg, (ht.block g (Array.getElem?_eq_some_iff.1 hh).1 (by have := hu g (by rw [hv]; rfl); omega)).trans hh, rr⟩

theorem read_there {es : List Ent} {x : Ent} {s s' : St} {p : List UInt8} (hx : findE es p = some x) (hg : goodP p = true) (hs : startP s true = (0, s')) : readP es s p = (x.data, 0, s') := by
  have h : startP s (goodP p) = (0, s') := by rw [hg]; exact hs
  have hl : lookP es p = 0 := by
    unfold lookP isP
    rw [if_neg (good_ne hg), if_neg (show ¬ (goodP p = false) by simp [hg]), hx]
    rfl
  unfold readP
  rw [h, hl, hx]
  rfl
/-- while the files are read: k have been -/
def EqL (w : World) (FP FR : Nat → Prop) (b bm rb : Nat) (es : List Ent) (s : St) (v : Value) (fs : List Ent) (r : RSt) (kb : Nat) (u : Value) (K1 K2 B bc bmc : Nat) (esc : List Ent) (i : Value) (W : World) : Prop :=
  ∃ (k : Nat) (s9 : St), i = .int .i64 k ∧ k ≤ fs.length ∧ EqW w FP FR b bm rb es s v fs r kb u W ∧ W.heap[K1]? = some (.deferred (some [])) ∧ W.heap[K2]? = some (.deferred (some [])) ∧ B ≤ W.heap.size ∧ FsAt W (fun j => B ≤ j) bc bmc esc (calm s9) ∧ StOk (calm s9) ∧ s9.calls ≤ s.calls + k
/-- between two paths: k have come, the count lies at nb -/
def EqN (w : World) (FP FR : Nat → Prop) (b bm rb : Nat) (es : List Ent) (s : St) (v : Value) (fs : List Ent) (r : RSt) (kb : Nat) (u : Value) (nb S : Nat) (M : Nat → Prop) (k : Nat) (W : World) : Prop :=
  EqW w FP FR b bm rb es s v fs r kb u W ∧ Box W nb (.int .i64 k) 3 ∧ S ≤ W.heap.size ∧ ∀ j, M j → W.heap[j]? = some (.deferred (some []))

set_option maxRecDepth 100000 in
set_option maxHeartbeats 8000000 in
theorem equal_any (w : World) {FP FR : Nat → Prop} {b bm rb : Nat} {es : List Ent} {s : St} {v : Value} {fs : List Ent} {r : RSt} (h : Both w FP FR b bm rb es s v fs r) (hc : s.calls ≤ 1000000000000000) :
    Calls Tryz.prog 14 #[.pointer (some ⟨b, 0, none⟩), .pointer (some ⟨rb, 0, none⟩)] w (BegunPost w) := by
  refine (callsIn_wide (n := 8)).1 ?_
  refine callsIn_of_wp_marks Tryz.func14 rfl trivial ?_ rfl
  simp only [Tryz.ntmps14, List.size_toArray, List.length_cons, List.length_nil, Nat.reduceAdd, Nat.reduceSub, Array.replicate_succ, Array.replicate_zero, List.push_toArray, List.append_toArray, List.nil_append, List.cons_append]
  have hdep : Fence.wide.depth.isSome = false := rfl
  have hf0 : Fence.wide.fn 49 := trivial
  have hf1 : Fence.wide.fn 31 := trivial
  have hf2 : Fence.wide.fn 10 := trivial
  have hf3 : Fence.wide.fn 12 := trivial
  have hf4 : Fence.wide.fn 11 := trivial
  have hf5 : Fence.wide.fn 13 := trivial
  have hf8 : Fence.wide.fn 43 := trivial
  have hf9 : Fence.wide.fn 45 := trivial
  have hf13 : Fence.wide.fn 52 := trivial
  obtain ⟨wA, hwA⟩ : ∃ wA, wA = (w.alloc (.cells #[.pointer (some ⟨rb, 0, none⟩)] 25)).alloc (.cells #[.bool false] 4) := ⟨_, rfl⟩
  have hbA : Below w.heap.size w wA := by rw [hwA]; exact ((Below.refl _ _).alloc (Nat.le_refl _) _).alloc (by simp) _
  have hsA : wA.heap.size = w.heap.size + 2 := by rw [hwA]; simp
  have hA : Both wA FP FR b bm rb es s v fs r := h.below hbA
  have hx1 : Box wA w.heap.size (.pointer (some ⟨rb, 0, none⟩)) 25 := by
    rw [hwA]
    exact (Below.heap_alloc _ _ _ (by simp)).trans (World.alloc_heap_new w _)
  have hx2 : Box wA (w.heap.size + 1) (.bool false) 4 := by
    have := World.alloc_heap_new (w.alloc (.cells #[.pointer (some ⟨rb, 0, none⟩)] 25)) (.cells #[.bool false] 4)
    rw [hwA]
    simpa [Box] using this
  have hfw : ∀ k, FP k ∨ FR k → k < w.heap.size := fun k hk => hk.elim (h.tightP k) (h.tightR k)
  have CD1 := Lib.hid (fun n => (down_any (wA.drewN n) FP b bm es s (hA.prog.same fun _ _ _ => rfl)).mono (R' := fun e w' => e = .returned (.bool s.down) ∧ w' = wA.drewN n) fun _ _ ⟨h1, h2⟩ => ⟨h1, h2.symm⟩)
  have CD2 := Lib.hid (fun n => (refDown_any (hA.ref.same (w' := wA.drewN n) fun _ _ _ => rfl)).mono (R' := fun e w' => e = .returned (.bool s.down) ∧ w' = wA.drewN n) fun _ _ ⟨h1, h2⟩ => ⟨by rw [h1, h.rel.2.2.2.1], h2.symm⟩)
  have CC1 := Lib.hid (fun n => (calls_any (wA.drewN n) FP b bm es s (hA.prog.same fun _ _ _ => rfl)).mono (R' := fun e w' => e = .returned (.int .i64 s.calls) ∧ w' = wA.drewN n) fun _ _ ⟨h1, h2⟩ => ⟨h1, h2.symm⟩)
  have CC2 := Lib.hid (fun n => (refCalls_any (hA.ref.same (w' := wA.drewN n) fun _ _ _ => rfl)).mono (R' := fun e w' => e = .returned (.int .i64 s.calls) ∧ w' = wA.drewN n) fun _ _ ⟨h1, h2⟩ => ⟨by rw [h1, h.rel.2.2.1], h2.symm⟩)
  have CP := Lib.hid (fun n => paths_any (wA.drewN n) FP b bm es s (hA.prog.same fun _ _ _ => rfl) (by have := h.len; omega))
  have hd1 : (s.down != s.down) = false := by simp
  have hd2 : (s.calls != s.calls) = false := by simp
  have k1 := hx1.cell
  have HWA := Lib.hid hwA
  have HH := Lib.hid h
  have HC := Lib.hid hc
  have HBA := Lib.hid hbA
  have HSA := Lib.hid hsA
  have HA := Lib.hid hA
  have HX1 := Lib.hid hx1
  have HX2 := Lib.hid hx2
  have HFW := Lib.hid hfw
  have hesl := h.len
  clear h hc hwA hbA hsA hA hx1 hx2 hfw
  gi_wp2_with fail
  rw [← HWA.out]
  gi_quiet (first
    | (gi_at_call 10; exact CallsIn.quiet_of_same (callsIn_wide.2 (CD1.out _)))
    | (gi_at_call 11; exact CallsIn.quiet_of_same (callsIn_wide.2 (CD2.out _)))
    | (gi_at_call 12; exact CallsIn.quiet_of_same (callsIn_wide.2 (CC1.out _)))
    | (gi_at_call 13; exact CallsIn.quiet_of_same (callsIn_wide.2 (CC2.out _))))
  clear k1 hd1 hd2 CD1 CD2 CC1 CC2
  gi_wp2_with (gi_at_call 52; refine (callsIn_wide.2 (CP.out _)).mono ?_; rintro e w5 ⟨v5, rfl, hb5, hr5, hB5⟩; have HB5 := Lib.hid hb5; have HR5 := Lib.hid hr5; have HBL5 := Lib.hid hB5; clear hb5 hr5 hB5)
  have hE5 : EqW w FP FR b bm rb es s v fs r (w.heap.size + 2) v5 w5 := by
    have e := HSA.out
    have hb := HBL5.out
    have h1 := HB5.out
    have h2 := HR5.out
    have e2 : (wA.drewN nq).heap.size = w.heap.size + 2 := e
    rw [e2] at hb h1 h2
    refine ⟨(HA.out.same (fun _ _ _ => rfl) (Nat.le_refl _) : Both (wA.drewN nq) FP FR b bm rb es s v fs r).below (by rw [e2]; exact hb), HX1.out.same (hb.block _ (by omega)), HX2.out.same (hb.block _ (by omega)), h1, h2, HBA.out.trans (⟨hb.os, hb.tape, hb.output, hb.size, fun k hk => hb.block k (by omega)⟩)⟩
  have hv5 : ∀ k, v5.ownBlock = some k → k < w5.heap.size := fun k hk => (HR5.out.lt k hk).2
  have HE5 := Lib.hid hE5
  have HV5 := Lib.hid hv5
  have hps : (pathsOf es) = fs.map (·.path) := by rw [pathsOf_rising HH.out.prog.rising]; exact HH.out.alike.paths
  have HPS := Lib.hid hps
  have hfl : (pathsOf es).length = fs.length := by rw [hps, List.length_map]
  have HFL := Lib.hid hfl
  have hfs := HH.out.ref.short
  clear hE5 hv5 hps hfl HB5 HR5 HBL5
  rw [HSA.out]
  refine wpIn_loop_rounds 3 ?_
  rw [roundsIn_succ]
  gi_wp2_with fail
  obtain ⟨WA, hWA⟩ : ∃ W1, W1 = w5.alloc (.cells #[.int .i64 0] 3) := ⟨_, rfl⟩
  have hsA' : WA.heap.size = w5.heap.size + 1 := by rw [hWA]; simp
  have hltC := HE5.out.all.lt
  have hEA : EqW w FP FR b bm rb es s v fs r (w.heap.size + 2) v5 WA := HE5.out.keep HFW.out (Nat.le_refl _) (Nat.le_refl _) HV5.out HE5.out.all.lt (by rw [hWA]; exact Touch.alloc _ _ _)
  have hnA : Box WA w5.heap.size (.int .i64 ((0 : Nat) : Int)) 3 := by rw [hWA]; exact World.alloc_heap_new _ _
  rw [← hWA]
  have HSZA := Lib.hid hsA'
  have HEA := Lib.hid hEA
  have HNA := Lib.hid hnA
  have HLC := Lib.hid hltC
  have HMA : Hid (∀ j : Nat, False → WA.heap[j]? = some (Obj.deferred (some []))) := Lib.hid (fun _ h => h.elim)
  have HMC : Hid (∀ j : Nat, False → j < w5.heap.size) := Lib.hid (fun _ h => h.elim)
  clear hWA hsA' hEA hnA hltC
  refine range_law0 (gf := 114) (xs := (pathsOf es).map str) (T := PathsT (w.heap.size + 2) v5) (by rfl) (enters_of Tryz.func114 (by kernel_rfl) rfl)
    (paths_iter0 WA (w.heap.size + 2) (w.heap.size + 3) v5 (pathsOf es) (by have := HFL.out; omega) HEA.out.all (by rw [HFL.out, ← HH.out.alike.len]; exact HEA.out.row))
    (fun k hk => by have := HSZA.out; have := HLC.out; rcases hk with rfl | hk; omega; have := HV5.out k hk; omega)
    (fun k W => EqN w FP FR b bm rb es s v fs r (w.heap.size + 2) v5 w5.heap.size WA.heap.size (fun _ => False) k W) (fun _ _ => False) ?hI (fun _ _ _ h _ => h) ⟨HEA.out, HNA.out, Nat.le_refl _, HMA.out⟩ _
    (by intro l x W K hK; gi_wp2_with fail; exact hK) ?body ?done (fun _ _ h => h.elim)
  case hI =>
    rintro k W W' ⟨he, hn, hsz, hm⟩ ht
    have h1 := HSZA.out
    have h2 := HLC.out
    exact ⟨he.keep HFW.out (Nat.le_refl _) (B := WA.heap.size) hsz (fun j hj => by have := HV5.out j hj; omega) (by omega) ⟨ht.os, ht.tape, ht.output, ht.size, fun j hj hn => ht.block j hj (by omega)⟩, hn.same (ht.block _ hn.lt (by omega)), Nat.le_trans hsz ht.size, fun j hj => (ht.block j (by have := HMC.out j hj; omega) (by have := HMC.out j hj; omega)).trans (hm j hj)⟩
  case body =>
    rintro l k x W hx ⟨he, hn, hsz, hm⟩ hlt
    rw [HPS.out] at hx
    obtain ⟨y, hy, rfl⟩ : ∃ y, fs[k]? = some y ∧ str y.path = x := by simpa using hx
    obtain ⟨A, cap, hvv, hcap, _, hat⟩ := he.both.ref.form
    obtain ⟨g, hg, _, cp, _, _⟩ := hat k y hy
    have c0 := he.both.ref.cell0
    rw [hvv, hg] at c0
    have cr := he.box.cell
    have cn := hn.cell
    have fn := hn.frozen
    have hkl : k < fs.length := (List.getElem?_eq_some_iff.1 hy).1
    have hkk : decide (fs.length ≤ k) = false := by simpa using hkl
    have hpp : (y.path != y.path) = false := by simp
    have i0 : (0 : Int) ≤ (k : Int) := by omega
    have i1 : (k : Int) < (fs.length : Int) := by omega
    have HEW := Lib.hid he
    have HNW := Lib.hid hn
    have HSW := Lib.hid hsz
    have HMW := Lib.hid hm
    clear he hn hsz hm hx hy hat hvv hg
    gi_wp2_with fail
    refine wpIn_region_round rfl (by simp) (by kernel_rfl) (by kernel_rfl) ?_
    repeat (gi_big_quiet_step (fail))
    refine wpQuietIn_nil ?_
    intro _ hw'
    obtain ⟨nr, hw''⟩ := hw'
    subst hw''
    gi_wp2_with fail
    have hlC := HLC.out
    have hU : Touch (fun j => j = w5.heap.size) W ((W.drewN nr).setCell ⟨w5.heap.size, 0, none⟩ (.int .i64 ((k : Int) + 1))) := (Touch.drewN W nr).trans (Touch.setCell _ ⟨w5.heap.size, 0, none⟩ _ rfl)
    have hse : w5.heap.size < W.heap.size := HNW.out.lt
    have hsz2 := HSW.out
    have hszA := HSZA.out
    refine ⟨Same.of_touch hU fun j hj => ⟨?_, ?_⟩, HEW.out.keep HFW.out (Nat.le_refl _) (B := w5.heap.size) (by omega) HV5.out hlC (hU.mono fun j _ e => by omega), ?_, Nat.le_trans hsz2 hU.size, fun j hj => (hU.block j (by have := HMC.out j hj; omega) (by have := HMC.out j hj; omega)).trans (HMW.out j hj)⟩
    · rcases hj with (rfl | hj) | rfl | rfl
      · omega
      · have := HV5.out j hj; omega
      · omega
      · exact hlt
    · rcases hj with (rfl | hj) | rfl | rfl
      · omega
      · have := HV5.out j hj; omega
      · omega
      · omega
    · have e : (Value.int .i64 ((k : Int) + 1)) = .int .i64 ((k + 1 : Nat) : Int) := by go_num
      rw [e]
      exact Box.set (w := W.drewN nr) HNW.out _
  case done =>
    rintro W ⟨he, hn, hsz, hm⟩ hK
    have hlen : ((pathsOf es).map str).length = fs.length := by rw [List.length_map]; exact HFL.out
    rw [hlen] at hn
    obtain ⟨A, cap, hvv, hcap, _, _⟩ := he.both.ref.form
    have c0 := he.both.ref.cell0
    rw [hvv] at c0
    have cr := he.box.cell
    have cn := hn.cell
    have hnn : ((fs.length : Int) != (fs.length : Int)) = false := by simp
    have HEW := Lib.hid he
    have HKW := Lib.hid hK
    have HVV := Lib.hid hvv
    have HSW := Lib.hid hsz
    have HMW := Lib.hid hm
    clear he hn hsz hm hK hlen hvv
    gi_wp2_with fail
    gi_quiet (fail)
    gi_wp2_with fail
    obtain ⟨w6, hw6⟩ : ∃ w6, w6 = W.drewN nq := ⟨_, rfl⟩
    have hE6 : EqW w FP FR b bm rb es s v fs r (w.heap.size + 2) v5 w6 := by
      rw [hw6]
      have h1 := HSZA.out
      have h2 := HSW.out
      exact HEW.out.keep HFW.out (Nat.le_refl _) (Nat.le_refl _) (fun k hk => by have := HV5.out k hk; omega) HEW.out.all.lt (Touch.drewN _ _)
    have hV6 : ∀ k, v5.ownBlock = some k → k < w6.heap.size := fun k hk => by
      have h0 := HV5.out k hk
      have h1 := HSZA.out
      have h2 := HSW.out
      have h3 : w6.heap.size = W.heap.size := by rw [hw6]; rfl
      omega
    have hK6 : w6.heap[WA.heap.size]? = some (.deferred (some [])) := by rw [hw6]; exact HKW.out
    have HE6 := Lib.hid hE6
    have HV6 := Lib.hid hV6
    have HK6 := Lib.hid hK6
    have HW6 := Lib.hid hw6
    rw [← hw6]
    clear hE6 hV6 hK6 hw6 c0 cr cn
    rw [roundsIn_succ]
    gi_wp2_with fail
    obtain ⟨WA2, hWA⟩ : ∃ W1, W1 = w6.alloc (.cells #[.int .i64 0] 3) := ⟨_, rfl⟩
    have hsA' : WA2.heap.size = w6.heap.size + 1 := by rw [hWA]; simp
    have hltC := HE6.out.all.lt
    have hEA : EqW w FP FR b bm rb es s v fs r (w.heap.size + 2) v5 WA2 := HE6.out.keep HFW.out (Nat.le_refl _) (Nat.le_refl _) HV6.out HE6.out.all.lt (by rw [hWA]; exact Touch.alloc _ _ _)
    have hnA : Box WA2 w6.heap.size (.int .i64 ((0 : Nat) : Int)) 3 := by rw [hWA]; exact World.alloc_heap_new _ _
    rw [← hWA]
    have HSZA2 := Lib.hid hsA'
    have HEA2 := Lib.hid hEA
    have HNA2 := Lib.hid hnA
    have HLC2 := Lib.hid hltC
    have HMA2 : Hid (∀ j, (fun j => j = WA.heap.size) j → WA2.heap[j]? = some (Obj.deferred (some []))) := Lib.hid fun j hj => by subst hj; rw [hWA]; exact (Below.heap_alloc _ _ _ (Array.getElem?_eq_some_iff.1 HK6.out).1).trans HK6.out
    have HMC2 : Hid (∀ j, (fun j => j = WA.heap.size) j → j < w6.heap.size) := Lib.hid fun j hj => by subst hj; exact (Array.getElem?_eq_some_iff.1 HK6.out).1
    clear hWA hsA' hEA hnA hltC
    refine range_law0 (gf := 114) (xs := (pathsOf es).map str) (T := PathsT (w.heap.size + 2) v5) (by rfl) (enters_of Tryz.func114 (by kernel_rfl) rfl)
      (paths_iter0 WA2 (w.heap.size + 2) (w.heap.size + 3) v5 (pathsOf es) (by have := HFL.out; omega) HEA2.out.all (by rw [HFL.out, ← HH.out.alike.len]; exact HEA2.out.row))
      (fun k hk => by have := HSZA2.out; have := HLC2.out; rcases hk with rfl | hk; omega; have := HV6.out k hk; omega)
      (fun k W => EqN w FP FR b bm rb es s v fs r (w.heap.size + 2) v5 w6.heap.size WA2.heap.size (fun j => j = WA.heap.size) k W) (fun _ _ => False) ?hI (fun _ _ _ h _ => h) ⟨HEA2.out, HNA2.out, Nat.le_refl _, HMA2.out⟩ _
      (by intro l x W K hK; gi_wp2_with fail; exact hK) ?body ?done (fun _ _ h => h.elim)
    case hI =>
      rintro k W W' ⟨he, hn, hsz, hm⟩ ht
      have h1 := HSZA2.out
      have h2 := HLC2.out
      exact ⟨he.keep HFW.out (Nat.le_refl _) (B := WA2.heap.size) hsz (fun j hj => by have := HV6.out j hj; omega) (by omega) ⟨ht.os, ht.tape, ht.output, ht.size, fun j hj hn => ht.block j hj (by omega)⟩, hn.same (ht.block _ hn.lt (by omega)), Nat.le_trans hsz ht.size, fun j hj => (ht.block j (by have := HMC2.out j hj; omega) (by have := HMC2.out j hj; omega)).trans (hm j hj)⟩
    case body =>
      rintro l k x W hx ⟨he, hn, hsz, hm⟩ hlt
      rw [HPS.out] at hx
      obtain ⟨y, hy, rfl⟩ : ∃ y, fs[k]? = some y ∧ str y.path = x := by simpa using hx
      obtain ⟨A, cap, hvv, hcap, _, hat⟩ := he.both.ref.form
      obtain ⟨g, hg, _, cp, _, _⟩ := hat k y hy
      have c0 := he.both.ref.cell0
      rw [hvv, hg] at c0
      have cr := he.box.cell
      have cn := hn.cell
      have fn := hn.frozen
      have hkl : k < fs.length := (List.getElem?_eq_some_iff.1 hy).1
      have hkk : decide (fs.length ≤ k) = false := by simpa using hkl
      have hpp : (y.path != y.path) = false := by simp
      have i0 : (0 : Int) ≤ (k : Int) := by omega
      have i1 : (k : Int) < (fs.length : Int) := by omega
      have HEW := Lib.hid he
      have HNW := Lib.hid hn
      have HSW := Lib.hid hsz
      have HMW := Lib.hid hm
      clear he hn hsz hm hx hy hat hvv hg
      gi_wp2_with fail
      refine wpIn_region_round rfl (by simp) (by kernel_rfl) (by kernel_rfl) ?_
      repeat (gi_big_quiet_step (fail))
      refine wpQuietIn_nil ?_
      intro _ hw'
      obtain ⟨nr, hw''⟩ := hw'
      subst hw''
      gi_wp2_with fail
      have hlC := HLC2.out
      have hU : Touch (fun j => j = w6.heap.size) W ((W.drewN nr).setCell ⟨w6.heap.size, 0, none⟩ (.int .i64 ((k : Int) + 1))) := (Touch.drewN W nr).trans (Touch.setCell _ ⟨w6.heap.size, 0, none⟩ _ rfl)
      have hse : w6.heap.size < W.heap.size := HNW.out.lt
      have hsz2 := HSW.out
      have hszA := HSZA2.out
      refine ⟨Same.of_touch hU fun j hj => ⟨?_, ?_⟩, HEW.out.keep HFW.out (Nat.le_refl _) (B := w6.heap.size) (by omega) HV6.out hlC (hU.mono fun j _ e => by omega), ?_, Nat.le_trans hsz2 hU.size, fun j hj => (hU.block j (by have := HMC2.out j hj; omega) (by have := HMC2.out j hj; omega)).trans (HMW.out j hj)⟩
      · rcases hj with (rfl | hj) | rfl | rfl
        · omega
        · have := HV6.out j hj; omega
        · omega
        · exact hlt
      · rcases hj with (rfl | hj) | rfl | rfl
        · omega
        · have := HV6.out j hj; omega
        · omega
        · omega
      · have e : (Value.int .i64 ((k : Int) + 1)) = .int .i64 ((k + 1 : Nat) : Int) := by go_num
        rw [e]
        exact Box.set (w := W.drewN nr) HNW.out _
    case done =>
      rintro W ⟨he, hn, hsz, hm⟩ hK
      have hlen : ((pathsOf es).map str).length = fs.length := by rw [List.length_map]; exact HFL.out
      rw [hlen] at hn
      obtain ⟨A, cap, hvv, hcap, _, _⟩ := he.both.ref.form
      have c0 := he.both.ref.cell0
      rw [hvv] at c0
      have cr := he.box.cell
      have cn := hn.cell
      have hnn : ((fs.length : Int) != (fs.length : Int)) = false := by simp
      have HEW := Lib.hid he
      have HKW := Lib.hid hK
      have HVV := Lib.hid hvv
      have HSW := Lib.hid hsz
      have HMW := Lib.hid hm
      clear he hn hsz hm hK hlen hvv
      gi_wp2_with fail
      gi_quiet (fail)
      gi_wp2_with fail
      obtain ⟨w7, hw7⟩ : ∃ w7, w7 = W.drewN nq := ⟨_, rfl⟩
      have hsz7 : w7.heap.size = W.heap.size := by rw [hw7]; rfl
      have hE7 : EqW w FP FR b bm rb es s v fs r (w.heap.size + 2) v5 w7 := by
        rw [hw7]
        have h1 := HSZA2.out
        have h2 := HSW.out
        exact HEW.out.keep HFW.out (Nat.le_refl _) (Nat.le_refl _) (fun k hk => by have := HV6.out k hk; omega) HEW.out.all.lt (Touch.drewN _ _)
      have hV7 : ∀ k, v5.ownBlock = some k → k < w7.heap.size := fun k hk => by
        have h0 := HV6.out k hk
        have h1 := HSZA2.out
        have h2 := HSW.out
        omega
      have hK1 : w7.heap[WA.heap.size]? = some (.deferred (some [])) := by rw [hw7]; exact HMW.out _ rfl
      have hK2 : w7.heap[WA2.heap.size]? = some (.deferred (some [])) := by rw [hw7]; exact HKW.out
      have CC := Lib.hid (clone_fs w7 FP b bm es s hE7.both.prog (by omega))
      have HE7 := Lib.hid hE7
      have HV7 := Lib.hid hV7
      have HK1 := Lib.hid hK1
      have HK2 := Lib.hid hK2
      rw [← hw7]
      clear hE7 hV7 hK1 hK2 hw7 hsz7 c0 cr cn
      rw [roundsIn_succ]
      gi_wp2_with (first
        | (gi_at_call 49; refine (callsIn_wide.2 CC.out).mono ?_; rintro e w8 ⟨bc, bmc, esc, rfl, hF, hS, hl, hb⟩; have HF8 := Lib.hid hF; have HS := Lib.hid hS; have HLC8 := Lib.hid hl; have HB8 := Lib.hid hb; clear hF hS hl hb)
        | (gi_at_call 45; refine (callsIn_wide.2 (restart_any _ _ bc bmc esc s HF8.out)).mono ?_; rintro e w9 ⟨rfl, hF, hT⟩; have HF9 := Lib.hid hF; have HT9 := Lib.hid ((Touch.of_below (T := fun k => w7.heap.size ≤ k) HB8.out).trans hT); clear hF hT)
        | (gi_at_call 43; refine (callsIn_wide.2 (setFault_any _ _ bc bmc esc _ 0 0 0 HF9.out)).mono ?_; rintro e w10 ⟨rfl, hF, hT⟩; rw [clear_fault] at hF; have HF10 := Lib.hid hF; have HT10 := Lib.hid (HT9.out.trans hT); have hx10 := HE7.out.box.same ((HT9.out.trans hT).block _ HE7.out.box.lt (by have := HE7.out.below.size; have := HE7.out.all.lt; omega)); have cx10 := hx10.cell; have hr10 := HE7.out.both.ref.same (w' := w10) fun k hk hF => (HT9.out.trans hT).block k hk (by have := HFW.out k (.inr hF); have := HE7.out.all.lt; omega); have cr10 := hr10.cell0; rw [HVV.out] at cr10; clear hF hT hx10 hr10))
      have hle7 := HE7.out.all.lt
      have hE10 : EqW w FP FR b bm rb es s v fs r (w.heap.size + 2) v5 w10 := HE7.out.keep HFW.out (Nat.le_refl _) (Nat.le_refl _) HV7.out hle7 HT10.out
      have HL0 := Lib.hid (show EqL w FP FR b bm rb es s v fs r (w.heap.size + 2) v5 WA.heap.size WA2.heap.size w7.heap.size bc bmc esc (.int .i64 0) w10 from
        ⟨0, s, rfl, Nat.zero_le _, hE10, (HT10.out.block _ (Array.getElem?_eq_some_iff.1 HK1.out).1 (by have := (Array.getElem?_eq_some_iff.1 HK1.out).1; omega)).trans HK1.out, (HT10.out.block _ (Array.getElem?_eq_some_iff.1 HK2.out).1 (by have := (Array.getElem?_eq_some_iff.1 HK2.out).1; omega)).trans HK2.out, HT10.out.size, HF10.out, calm_ok HH.out.ok, by omega⟩)
      have HAL := Lib.hid (show Alike esc fs from Eq.trans (same_alike HH.out.prog.rising HF8.out.rising HS.out) HH.out.alike)
      have HLE7 := Lib.hid hle7
      clear hE10 cx10 cr10 hle7 CC HF8 HF9 HT9 HF10
      gi_loopw [10, 11, 12, 73] (fun _ _ _ i W => EqL w FP FR b bm rb es s v fs r (w.heap.size + 2) v5 WA.heap.size WA2.heap.size w7.heap.size bc bmc esc i W) (fun _ _ _ i _ => fs.length - (intOf i).toNat)
      case atStart => exact HL0.out
      case round =>
        obtain ⟨k, s9, rfl, hk, hE, hm1, hm2, hB, hF, ho9, hc9⟩ := hrel
        have HE := Lib.hid hE
        have HM1 := Lib.hid hm1
        have HM2 := Lib.hid hm2
        have HBB := Lib.hid hB
        have HF := Lib.hid hF
        have HO9 := Lib.hid ho9
        have HC9 := Lib.hid hc9
        by_cases hlt : k < fs.length
        · obtain ⟨x, hx⟩ : ∃ x, fs[k]? = some x := ⟨_, List.getElem?_eq_getElem hlt⟩
          obtain ⟨A', cap', hv', _, _, hat⟩ := hE.both.ref.form
          rw [HVV.out] at hv'
          injection hv' with e1 e2 e3
          subst e1 e3
          obtain ⟨g, rfl, _, cp, cd, _⟩ := hat k x hx
          have hxm := List.mem_of_getElem? hx
          have hgx := HH.out.good x hxm
          obtain ⟨y, hy, hyd⟩ : ∃ y, findE esc x.path = some y ∧ y.data = x.data := by
            have h1 := HAL.out.look x.path
            have h2 : lookR fs x.path = some x.data := by unfold lookR; rw [rising_find HH.out.rising hxm]; rfl
            rw [h2] at h1
            obtain ⟨y, hy, e⟩ := Option.map_eq_some_iff.1 h1
            exact ⟨y, hy, e⟩
          obtain ⟨A5, cap5, hx5, _⟩ := own_form (hE.both.ref.datas x hxm).1
          have hov : x.val.oneCell' = true := data_one hE.both.ref x hxm
          rw [hx5] at cd
          obtain ⟨wr1, hwr1⟩ : ∃ z, z = wr.alloc (.cells #[str x.path, .slice A5 x.data.length cap5] 94) := ⟨_, rfl⟩
          have hb1 : Below wr.heap.size wr wr1 := by rw [hwr1]; exact (Below.refl _ _).alloc (Nat.le_refl _) _
          have hbx : wr1.heap[wr.heap.size]? = some (.cells #[str x.path, .slice A5 x.data.length cap5] 94 (0, 0)) := by rw [hwr1]; exact World.alloc_heap_new wr _
          have CR := read_any wr1 _ bc bmc esc (calm s9) x.path (hF.below hb1) ho9 (by have h1 := HC.out; have h2 := HH.out.len; have h3 := hfs; show s9.calls ≤ _; omega)
          rw [read_there hy hgx (calm_start s9), hyd] at CR
          have CR := Lib.hid CR
          have HB1 := Lib.hid hb1
          have HBX := Lib.hid hbx
          have hbcl : w7.heap.size ≤ bc := hF.own
          have hrow0 := (hE.both.ref.datas x hxm).1
          have hrown := (hE.both.ref.datas x hxm).2
          rw [hx5] at hrow0 hrown
          have HRX : Hid (∀ W, Touch (fun k => k = bc) wr1 W → Row W (.slice A5 x.data.length cap5) x.data) := Lib.hid fun W hW => (hrow0.same fun g hg => hb1.block g (hrow0.block g hg)).same fun g hg => hW.block g (Nat.lt_of_lt_of_le (hrow0.block g hg) hb1.size) (by have h1 := HFW.out g (.inr (hrown g hg)); have h2 := HLE7.out; omega)
          have HWR := Lib.hid hwr1
          have hdd : (x.data != x.data) = false := by simp
          have i0 : (0 : Int) ≤ (k : Int) := by omega
          have i1 : (k : Int) < (fs.length : Int) := by omega
          have k0 : wr1.cell? ⟨wr.heap.size, 0, none⟩ = some (str x.path) := cell_of_row _ _ 0 _ _ _ hbx
          clear hE hm1 hm2 hB hF ho9 hc9 hx hat hxm hgx hy hyd hx5 hrow0 hrown hbcl hwr1 hb1 hbx
          gi_wp2_with (rw [← HWR.out]; gi_at_call 31; refine (callsIn_wide.2 CR.out).mono ?_; rintro e w12 ⟨u, rfl, hr, hF2, hT2⟩; have hbne : bc < wr.heap.size := HF.out.lt; have hbx2 := (hT2.block _ (Array.getElem?_eq_some_iff.1 HBX.out).1 (by omega)).trans HBX.out; have k1 : w12.cell? ⟨wr.heap.size, 1, none⟩ = some (.slice A5 x.data.length cap5) := cell_of_row _ _ 1 _ _ _ hbx2; have hcu := conv_reads (Reads.of_row hr); have hcx := conv_reads (Reads.of_row (base := 0) (HRX.out _ hT2)); have HF2 := Lib.hid hF2; have HT2 := Lib.hid hT2; clear hF2 hT2 hr hbx2)
          gi_wp2_with fail
          have hTT : Touch (fun j => w7.heap.size ≤ j) wr w12 := (Touch.of_below HB1.out).trans (HT2.out.mono fun j _ e => by rw [e]; exact HF.out.own)
          have hk1 := (Array.getElem?_eq_some_iff.1 HK1.out).1
          have hk2 := (Array.getElem?_eq_some_iff.1 HK2.out).1
          have hbs := HBB.out
          have hc9 := HC9.out
          go_roundw
          case rel =>
            exact ⟨k + 1, { s9 with calls := s9.calls + 1 }, by go_num, by omega, HE.out.keep HFW.out (Nat.le_refl _) hbs HV7.out HLE7.out hTT, (hTT.block _ (by omega) (by omega)).trans HM1.out, (hTT.block _ (by omega) (by omega)).trans HM2.out, Nat.le_trans hbs hTT.size, HF2.out, call_ok (s := calm s9) HO9.out (by have h1 := HC.out; show s9.calls ≤ _; omega), by show s9.calls + 1 ≤ _; omega⟩
          case measure => simp [intOf]; omega
        · have hge : fs.length ≤ k := by omega
          have c4 := hE.res.cell
          have f4 := hE.res.frozen
          clear hE hm1 hm2 hB hF ho9 hc9
          gi_wp2_with fail
          have hlw := HE.out.all.lt
          have hw1 : ∀ x, x ≠ w.heap.size + 1 → (wr.setCell ⟨w.heap.size + 1, 0, none⟩ (.bool true)).heap[x]? = wr.heap[x]? := fun x hx => Below.heap_setCell _ _ _ x hx
          have hnb : ∀ {x}, wr.heap[x]? = some (Obj.deferred (some [])) → x ≠ w.heap.size + 1 := fun {x} hx e => by rw [e, HE.out.res] at hx; cases hx
          have hd2 := (hw1 WA2.heap.size (hnb HM2.out)).trans HM2.out
          have hd1 := (hw1 WA.heap.size (hnb HM1.out)).trans HM1.out
          have h12 : WA.heap.size ≠ WA2.heap.size := by
            have := (Array.getElem?_eq_some_iff.1 HK6.out).1
            have := HSZA2.out
            omega
          refine ⟨by simp, .inl ⟨_, _, rfl, run_takeDeferred hd2, ?_⟩⟩
          have hd1' := (World.putObj_heap_other (w := wr.setCell ⟨w.heap.size + 1, 0, none⟩ (.bool true)) (r := WA2.heap.size) (o := .deferred none) h12).trans hd1
          refine ⟨by simp, .inl ⟨_, _, rfl, run_takeDeferred hd1', ?_⟩⟩
          have hne1 : w.heap.size + 1 ≠ WA.heap.size := fun e => hnb HM1.out e.symm
          have hne2 : w.heap.size + 1 ≠ WA2.heap.size := fun e => hnb HM2.out e.symm
          have hbx : Box (((wr.setCell ⟨w.heap.size + 1, 0, none⟩ (.bool true)).putObj WA2.heap.size (.deferred none)).putObj WA.heap.size (.deferred none)) (w.heap.size + 1) (.bool true) 4 :=
            ((HE.out.res.set (.bool true)).same (World.putObj_heap_other hne2)).same (World.putObj_heap_other hne1)
          have hcb := hbx.cell
          have hbw := HE.out.below
          have hg1 : w.heap.size ≤ WA.heap.size := by have h1 := HSZA.out; have h2 := HLC.out; omega
          have hg2 : w.heap.size ≤ WA2.heap.size := by have h1 := HSZA2.out; have h2 := HLC2.out; omega
          refine ⟨.bool true, by simp [results, Tryz.results14, go_sem, hcb], rfl, ?_⟩
          have hS : Below w.heap.size w (wr.setCell ⟨w.heap.size + 1, 0, none⟩ (.bool true)) := hbw.setCell (p := ⟨w.heap.size + 1, 0, none⟩) (Nat.le_succ _) _
          have hP2 := hS.trans ((Touch.putObj (T := fun x => x = WA2.heap.size) _ WA2.heap.size (.deferred none) rfl).below hS.size fun x hx => by omega)
          exact hP2.trans ((Touch.putObj (T := fun x => x = WA.heap.size) _ WA.heap.size (.deferred none) rfl).below hP2.size fun x hx => by omega)

end Go.Proofs.YthpkfgjjaieikaaGreatDoor
