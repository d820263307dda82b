/-
  The document's reader of package tinfo: Read.
-/
import Derived.Test.YtcfgppjhgobboaaGreatDoorTiDg
import Derived.Test.YtcfgppjhgobboaaGreatDoorTiRead
import Derived.Deep.Cut
namespace Go.Proofs.YtcfgppjhgobboaaGreatDoor
open Go.RowKit Go.Shelf Go.Lib
attribute [local go_sem] Oper.semAt_some

theorem first_fin {b : List UInt8} {t : TermD} {fin : Nat} (h : readFirst b = .ok (t, fin)) : fin ≤ b.length ∧ t.exts = [] := by
  by_cases h1 : b.length < 12
  · rw [readFirst_e1 h1] at h; cases h
  by_cases h2 : shortAt b 0 ≠ 282 ∧ shortAt b 0 ≠ 542
  · rw [readFirst_e2 h1 h2] at h; cases h
  cases hf : firstBad 5 (countBad b) with
  | some i => rw [readFirst_e3 h1 h2 hf] at h; cases h
  | none =>
    unfold readFirst at h
    rw [if_neg h1, if_neg h2, hf] at h
    simp only at h
    split at h
    · cases h
    split at h
    · cases h
    split at h
    · cases h
    injection h with h
    injection h with h3 h4
    exact ⟨by omega, by rw [← h3]⟩
theorem DrAt.made (w : World) (v : Value) (b : List UInt8) (hw : ∀ W', Below w.heap.size w W' → BytesV W' v b) : DrAt (w.alloc (.cells #[v, .int .i64 0, .int .i64 0, .int .i64 0, .bool false] 64)) w.heap.size v b ⟨0, 0, 0, false⟩ :=
  ⟨World.alloc_heap_new _ _, fun W' ht => hw W' (((Below.refl _ w).alloc (Nat.le_refl _) _).trans (ht.below (by simp) fun k hk => by omega)), Nat.zero_le _⟩
/-- where the document's Read begins: the box of its result, its reader -/
structure DReadAt (w w2 : World) (v : Value) (b : List UInt8) : Prop where
  rd : DrAt w2 (w.heap.size + 1) v b ⟨0, 0, 0, false⟩
  tabs : RobP (fun k => k = w.heap.size + 1) w2 Tabs
  below : Below w.heap.size w w2
  size : w2.heap.size = w.heap.size + 1 + 1
  res : w2.heap[w.heap.size]? = some termZero
theorem DReadAt.made (w : World) (v : Value) (b : List UInt8) (h : BytesV w v b) (hT : Tabs w) : DReadAt w ((w.alloc termZero).alloc (.cells #[v, .int .i64 0, .int .i64 0, .int .i64 0, .bool false] 64)) v b := by
  obtain ⟨w1, h1⟩ : ∃ w1, w.alloc termZero = w1 := ⟨_, rfl⟩
  have s1 : w1.heap.size = w.heap.size + 1 := by rw [← h1]; simp
  have b1 : Below w.heap.size w w1 := h1 ▸ (Below.refl _ w).alloc (Nat.le_refl _) _
  have b2 : Below w1.heap.size w1 (w1.alloc (.cells #[v, .int .i64 0, .int .i64 0, .int .i64 0, .bool false] 64)) := (Below.refl _ w1).alloc (Nat.le_refl _) _
  have x1 : w1.heap[w.heap.size]? = some termZero := h1 ▸ World.alloc_heap_new w _
  rw [h1]
  refine ⟨s1 ▸ DrAt.made w1 v b fun W' hW => h.below (b1.trans (hW.mono (by omega))), fun W' ht => hT.below ((b1.trans (b2.mono (by omega))).trans (ht.below (by simp; omega) fun k hk => by omega)), b1.trans (b2.mono (by omega)), by simp; omega, (b2.block _ (by omega)).trans x1⟩
theorem ReadPost.error {w w' : World} {b : List UInt8} {q : Nat} {er : Int} (h : readAll b = .error (q, er)) (hb : Below w.heap.size w w') : ReadPost w b (.returned (.tuple #[termVal term00 (fun _ => .slice none 0 0) (.slice none 0 0), .int .i64 q, .int .i64 er])) w' := by
  unfold ReadPost
  rw [h]
  exact ⟨hb, rfl⟩
theorem ReadPost.ok {w w' : World} {b : List UInt8} {t : TermD} {x0 x1 x2 xe : Value} (h : readAll b = .ok t) (hb : Below w.heap.size w w') (hr : RobT (fun k => k < w.heap.size) w' (tri x0 x1 x2) xe t) : ReadPost w b (.returned (.tuple #[termVal t (tri x0 x1 x2) xe, .int .i64 0, .int .i64 0])) w' := by
  unfold ReadPost
  rw [h]
  exact ⟨hb, x0, x1, x2, xe, rfl, hr⟩
/-- the result that tells a flaw, stored -/
theorem ReadPost.flaw {w w2 w4 : World} {v : Value} {b : List UInt8} {s : RS} {q : Nat} {er : Int} (HA : DReadAt w w2 v b) (hs : DStep w2 (w.heap.size + 1) v b s w4) (h : readAll b = .error (q, er)) :
    ReadPost w b (.returned (.tuple #[.agg #[.string ⟨#[]⟩, .bool false, .slice none 0 0, .slice none 0 0, .slice none 0 0, .slice none 0 0], .int .i64 q, .int .i64 er])) (storeTerm w4 w.heap.size ⟨[], false, [], [], [], []⟩ (tri (.slice none 0 0) (.slice none 0 0) (.slice none 0 0)) (.slice none 0 0)).drew := by
  have ht := storeTerm_touch w4 w.heap.size ⟨[], false, [], [], [], []⟩ (tri (.slice none 0 0) (.slice none 0 0) (.slice none 0 0)) (.slice none 0 0)
  have h1 := HA.size
  have h2 := hs.ht.size
  exact ReadPost.error h ((HA.below.trans (hs.ht.below (by omega) fun k hk => by omega)).trans (ht.below (by omega) fun k hk => by omega)).drew
theorem touch_two {T T' : Nat → Prop} {W W' W2 : World} (ht : Touch T W W') (hT : ∀ k, k < W.heap.size → T' k → T k) (h2 : Touch T' W' W2) : Touch T W W2 :=
  ⟨h2.os.trans ht.os, h2.tape.trans ht.tape, h2.output.trans ht.output, Nat.le_trans ht.size h2.size, fun k hk hn => (h2.block k (Nat.lt_of_lt_of_le hk ht.size) fun hx => hn (hT k hk hx)).trans (ht.block k hk hn)⟩
theorem RobT.grow {T T' : Nat → Prop} {W W' : World} {v : Nat → Value} {ve : Value} {t : TermD} (h : RobT T W v ve t) (ht : Touch T W W') (hT : ∀ k, k < W.heap.size → T' k → T k) : RobT T' W' v ve t :=
  ⟨fun i hi W2 h2 => h.caps i hi W2 (touch_two ht hT h2), fun W2 h2 => h.exts W2 (touch_two ht hT h2)⟩
/-- the result that is an entry, stored -/
theorem ReadPost.term {w w2 W : World} {v : Value} {b : List UInt8} {s : RS} {t : TermD} {x0 x1 x2 xe : Value} {T : Nat → Prop} (HA : DReadAt w w2 v b) (hs : DStep w2 (w.heap.size + 1) v b s W) (hrob : RobT T W (tri x0 x1 x2) xe t) (hT : ∀ k, k < w2.heap.size → T k) (h : readAll b = .ok t) :
    ReadPost w b (.returned (.tuple #[termVal t (tri x0 x1 x2) xe, .int .i64 0, .int .i64 0])) (storeTerm W w.heap.size t (tri x0 x1 x2) xe) := by
  have ht := storeTerm_touch W w.heap.size t (tri x0 x1 x2) xe
  have h1 := HA.size
  have h2 := hs.ht.size
  exact ReadPost.ok h ((HA.below.trans (hs.ht.below (by omega) fun k hk => by omega)).trans (ht.below (by omega) fun k hk => by omega)) ((hrob.next (ht.mono fun k _ hk => hT k (by omega))).less fun k hk => hT k (by omega))
theorem term_at {W : World} {t2 : Nat} (h : W.heap[t2]? = some termZero) (t : TermD) (x0 x1 x2 xe : Value) (j : Nat) : (storeTerm W t2 t (tri x0 x1 x2) xe).cell? ⟨t2, j, none⟩ = (#[str t.names, .bool t.wide, x0, x1, x2, xe] : Array Value)[j]? :=
  stored_at h t.names t.wide t.bools t.nums t.strs t.exts x0 x1 x2 xe j
theorem drew_cell (W : World) (a : Addr) : W.drew.cell? a = W.cell? a := rfl
theorem flaw_at {w4 : World} {t2 : Nat} (h : w4.heap[t2]? = some termZero) (j : Nat) : ((storeTerm w4 t2 ⟨[], false, [], [], [], []⟩ (tri (.slice none 0 0) (.slice none 0 0) (.slice none 0 0)) (.slice none 0 0)).drew).cell? ⟨t2, j, none⟩ = (#[.string ⟨#[]⟩, .bool false, .slice none 0 0, .slice none 0 0, .slice none 0 0, .slice none 0 0] : Array Value)[j]? := by
  rw [drew_cell]
  exact stored_at h [] false [] [] [] [] (.slice none 0 0) (.slice none 0 0) (.slice none 0 0) (.slice none 0 0) j
set_option maxRecDepth 100000 in
set_option maxHeartbeats 4000000 in
theorem dread_any (w : World) (A : Option Addr) (cap : Nat) (b : List UInt8) (h : BytesV w (.slice A b.length cap) b) (hT : Tabs w) :
    Calls Tryz.prog 8 #[.slice A b.length cap] w (ReadPost w b) := by
  have hbr : ∀ W, (Instr.build 64 #[(0, .slice A b.length cap)]).run Tryz.prog W = .ok (.agg #[.slice A b.length cap, .int .i64 0, .int .i64 0, .int .i64 0, .bool false]) W := fun W => by kernel_rfl
  have hbt : ∀ W, (Instr.build 26 #[]).run Tryz.prog W = .ok (.agg #[.string ⟨#[]⟩, .bool false, .slice none 0 0, .slice none 0 0, .slice none 0 0, .slice none 0 0]) W := fun W => by kernel_rfl
  have HA := Lib.hid (DReadAt.made w _ b h hT)
  have CF := Lib.hid (dfirst_any _ _ A cap b HA.out.rd)
  have hbb := h.size
  have ib : (b.length : Int) ≤ 140737488351232 := by omega
  clear h hT hbb
  cases hf : readFirst b with
  | error q =>
    obtain ⟨q, er⟩ := q
    have CF1 : Hid (Calls Tryz.prog 25 #[.pointer (some ⟨w.heap.size + 1, 0, none⟩)] ((w.alloc termZero).alloc (.cells #[.slice A b.length cap, .int .i64 0, .int .i64 0, .int .i64 0, .bool false] 64)) fun e w' => (∃ nm wd A0 n0 c0 A1 n1 c1 A2 n2 c2 A3 n3 c3, e = .returned (.agg #[str nm, .bool wd, .slice A0 n0 c0, .slice A1 n1 c1, .slice A2 n2 c2, .slice A3 n3 c3])) ∧ er ≠ 0 ∧ ∃ s' : RS, s'.e = er ∧ s'.bad = q ∧ DStep _ (w.heap.size + 1) (.slice A b.length cap) b s' w') := Lib.hid ((CF.out).mono fun e w' h => by unfold DFirstPost at h; rw [hf] at h; exact h)
    have HR := Lib.hid (readAll_e1 hf)
    clear hf
    go_enter Tryz.func8, Tryz.ntmps8
    go_wp2_with (first
    | (go_at_call 25; refine (CF1.out).mono ?_; rintro e w3 ⟨⟨nm, wd, A0, n0, x0, A1, n1, x1, A2, n2, x2, A3, n3, x3, rfl⟩, hne, s', he, hbd, hs⟩
       have hs4 := hs.next ((Below.refl _ w3).alloc (Nat.le_refl _) (termObj nm wd (.slice A0 n0 x0) (.slice A1 n1 x1) (.slice A2 n2 x2) (.slice A3 n3 x3)))
       have hres : (w3.alloc (termObj nm wd (.slice A0 n0 x0) (.slice A1 n1 x1) (.slice A2 n2 x2) (.slice A3 n3 x3))).heap[w.heap.size]? = some termZero := (hs4.ht.block _ (by have := HA.out.size; omega) (by omega)).trans HA.out.res
       obtain ⟨-, c1, c2, c3, -, -, -, -, -, -⟩ := hs4.rd.cells
       rw [he] at c2
       rw [hbd] at c3
       have HS := Lib.hid (And.intro hs4 hres)
       obtain ⟨z0, z1, z2, z3, z4, z5, y0, y1, y2, y3, y4, y5⟩ := termZero_facts hres
       have hp := hs.rd.pos
       obtain ⟨ps, hps⟩ : ∃ n, s'.pos = n := ⟨_, rfl⟩
       rw [hps] at c1 hp
       have ip : (ps : Int) ≤ (b.length : Int) := by omega
       have e1 : (er == 0) = false := by simpa using hne
       have e2 : (er != 0) = true := by simpa using hne
       clear hne he hbd hs hs4 hres hp hps))
    have HS := HS.out
    generalize w3.alloc (termObj nm wd (.slice A0 n0 x0) (.slice A1 n1 x1) (.slice A2 n2 x2) (.slice A3 n3 x3)) = w4 at *
    have HX := Lib.hid (ReadPost.flaw HA.out HS.1 HR.out)
    have hres := flaw_at HS.2
    have HRES := Lib.hid hres
    clear hres HS
    go_region
    change Exit.then _ _ _ _ (storeTerm w4 w.heap.size ⟨[], false, [], [], [], []⟩ (tri (.slice none 0 0) (.slice none 0 0) (.slice none 0 0)) (.slice none 0 0)).drew
    generalize (storeTerm w4 w.heap.size ⟨[], false, [], [], [], []⟩ (tri (.slice none 0 0) (.slice none 0 0) (.slice none 0 0)) (.slice none 0 0)).drew = w5 at *
    go_wp2
    have hres := HRES.out
    exact bodyPost_ret (by simp [results, Tryz.results8, go_sem, hres]) rfl HX.out
  | ok r =>
    obtain ⟨t, fin⟩ := r
    have CF1 : Hid (Calls Tryz.prog 25 #[.pointer (some ⟨w.heap.size + 1, 0, none⟩)] ((w.alloc termZero).alloc (.cells #[.slice A b.length cap, .int .i64 0, .int .i64 0, .int .i64 0, .bool false] 64)) fun e w' => ∃ x0 x1 x2, e = .returned (termVal t (tri x0 x1 x2) (.slice none 0 0)) ∧ RobT (fun k => k < ((w.alloc termZero).alloc (.cells #[.slice A b.length cap, .int .i64 0, .int .i64 0, .int .i64 0, .bool false] 64)).heap.size) w' (tri x0 x1 x2) (.slice none 0 0) t ∧ DStep ((w.alloc termZero).alloc (.cells #[.slice A b.length cap, .int .i64 0, .int .i64 0, .int .i64 0, .bool false] 64)) (w.heap.size + 1) (.slice A b.length cap) b ⟨fin, 0, 0, t.wide⟩ w') := Lib.hid ((CF.out).mono fun e w' h => by unfold DFirstPost at h; rw [hf] at h; exact h)
    obtain ⟨hfl, htx⟩ := first_fin hf
    have HF := Lib.hid (And.intro hf (And.intro hfl htx))
    have HSZ := Lib.hid HA.out.size
    have iF : (fin : Int) ≤ (b.length : Int) := by omega
    clear hf CF
    go_enter Tryz.func8, Tryz.ntmps8
    go_upto_region 3 with (first
    | (go_at_call 25; refine (CF1.out).mono ?_; rintro e w3 ⟨x0, x1, x2, rfl, hrob, hs⟩
       obtain ⟨B0, m0, rfl, _⟩ := CapsV.form (show CapsV w3 x0 t.bools from (hrob.caps 0 (by omega)).val)
       obtain ⟨B1, m1, rfl, _⟩ := CapsV.form (show CapsV w3 x1 t.nums from (hrob.caps 1 (by omega)).val)
       obtain ⟨B2, m2, rfl, _⟩ := CapsV.form (show CapsV w3 x2 t.strs from (hrob.caps 2 (by omega)).val)
       rw [show termVal t (tri (.slice B0 t.bools.length m0) (.slice B1 t.nums.length m1) (.slice B2 t.strs.length m2)) (.slice none 0 0) = .agg #[str t.names, .bool t.wide, .slice B0 t.bools.length m0, .slice B1 t.nums.length m1, .slice B2 t.strs.length m2, .slice none 0 0] from rfl]
       have hbn : Below w3.heap.size w3 (w3.alloc (termObj t.names t.wide (.slice B0 t.bools.length m0) (.slice B1 t.nums.length m1) (.slice B2 t.strs.length m2) (.slice none 0 0))) := (Below.refl _ w3).alloc (Nat.le_refl _) _
       have hs4 := hs.next hbn
       have hsz := hs.ht.size
       have hres := (hs4.ht.block _ (by have := HA.out.size; omega) (by omega)).trans HA.out.res
       have HD := Lib.hid (D2.mk hs4 (World.alloc_heap_new w3 (termObj t.names t.wide (.slice B0 t.bools.length m0) (.slice B1 t.nums.length m1) (.slice B2 t.strs.length m2) (.slice none 0 0))) hres)
       have HROB := Lib.hid (hrob.grow (T' := fun k => k < ((w.alloc termZero).alloc (.cells #[.slice A b.length cap, .int .i64 0, .int .i64 0, .int .i64 0, .bool false] 64)).heap.size ∨ k = w3.heap.size) (Touch.of_below hbn) (fun k hk hx => by omega))
       have HS3 := Lib.hid (show w.heap.size + 1 < w3.heap.size by have := HSZ.out; omega)
       clear hs hs4 hres hrob hbn hsz))
    generalize w3.alloc (termObj t.names t.wide (.slice B0 t.bools.length m0) (.slice B1 t.nums.length m1) (.slice B2 t.strs.length m2) (.slice none 0 0)) = w4 at *
    generalize (w.alloc termZero).alloc (.cells #[.slice A b.length cap, .int .i64 0, .int .i64 0, .int .i64 0, .bool false] 64) = w2 at *
    clear CF1
    obtain ⟨c0, c1, c2, c3, -, -, -, -, -, -⟩ := HD.out.st.rd.cells
    obtain ⟨b0, b1, b2, b3, b4, b5, f0, f1, f2, f3, f4, f5⟩ := HD.out.cells
    obtain ⟨z0, z1, z2, z3, z4, z5, y0, y1, y2, y3, y4, y5⟩ := termZero_facts HD.out.res
    by_cases hA : b.length = fin
    · have HR := Lib.hid (readAll_short HF.out.1 (.inl hA))
      have hA0 : ((b.length : Int) - (fin : Int)) = 0 := by omega
      clear hA hfl htx iF
      have HX := Lib.hid (ReadPost.term (t := t) HA.out HD.out.st HROB.out (fun k hk => .inl hk) HR.out)
      have HRES := Lib.hid (term_at HD.out.res t (.slice B0 t.bools.length m0) (.slice B1 t.nums.length m1) (.slice B2 t.strs.length m2) (.slice none 0 0))
      go_wp2_with fail
      change bodyPost _ _ _ _ _ (storeTerm w4 w.heap.size t (tri (.slice B0 t.bools.length m0) (.slice B1 t.nums.length m1) (.slice B2 t.strs.length m2)) (.slice none 0 0))
      generalize storeTerm w4 w.heap.size t (tri (.slice B0 t.bools.length m0) (.slice B1 t.nums.length m1) (.slice B2 t.strs.length m2)) (.slice none 0 0) = w9 at *
      have hres := HRES.out
      exact bodyPost_ret (by simp [results, Tryz.results8, go_sem, hres]; exact ⟨rfl, rfl, rfl⟩) rfl HX.out
    · by_cases hB : b.length = evenUp fin
      · have HR := Lib.hid (readAll_short HF.out.1 (.inr hB))
        have hodd : fin % 2 = 1 := by unfold evenUp at hB; omega
        have hA0 : ((b.length : Int) - (fin : Int)) = 1 := by unfold evenUp at hB; omega
        have hm : ((fin : Nat) : Int).tmod 2 = 1 := by rw [Int.tmod_eq_emod_of_nonneg (by omega)]; omega
        have hm2 : ((fin : Nat) : Int) % 2 = 1 := by omega
        clear hA hB hfl htx hodd iF
        have HX := Lib.hid (ReadPost.term (t := t) HA.out HD.out.st HROB.out (fun k hk => .inl hk) HR.out)
        have HRES := Lib.hid (term_at HD.out.res t (.slice B0 t.bools.length m0) (.slice B1 t.nums.length m1) (.slice B2 t.strs.length m2) (.slice none 0 0))
        go_wp2_with fail
        change bodyPost _ _ _ _ _ (storeTerm w4 w.heap.size t (tri (.slice B0 t.bools.length m0) (.slice B1 t.nums.length m1) (.slice B2 t.strs.length m2)) (.slice none 0 0))
        generalize storeTerm w4 w.heap.size t (tri (.slice B0 t.bools.length m0) (.slice B1 t.nums.length m1) (.slice B2 t.strs.length m2)) (.slice none 0 0) = w9 at *
        have hres := HRES.out
        exact bodyPost_ret (by simp [results, Tryz.results8, go_sem, hres]; exact ⟨rfl, rfl, rfl⟩) rfl HX.out
      · have hev : evenUp fin ≤ b.length := by unfold evenUp at hB ⊢; omega
        obtain ⟨pe, hpe⟩ : ∃ n, evenUp fin = n := ⟨_, rfl⟩
        have HNE : Hid (¬ (b.length = fin ∨ b.length = evenUp fin)) := Lib.hid (by omega)
        have HPE := Lib.hid hpe
        have CE : Hid (∀ W, DrAt W (w.heap.size + 1) (.slice A b.length cap) b ⟨fin, 0, 0, t.wide⟩ → Calls Tryz.prog 26 #[.pointer (some ⟨w.heap.size + 1, 0, none⟩)] W fun e w' => e = .returned (.tuple #[]) ∧ DStep W (w.heap.size + 1) (.slice A b.length cap) b ⟨pe, 0, 0, t.wide⟩ w') := Lib.hid (fun W hW => by have := deven_any W _ _ b _ hW; rw [evenS_ok rfl hev] at this; rw [← hpe]; exact this)
        have HNN : Hid (w.heap.size ≠ w.heap.size + 1 ∧ w3.heap.size ≠ w.heap.size + 1 ∧ w.heap.size ≠ w3.heap.size ∧ w2.heap.size ≤ w3.heap.size) := Lib.hid (by have := HS3.out; have := HSZ.out; omega)
        have hcase : ((b.length : Int) - (fin : Int) = 1 ∧ ((fin : Nat) : Int).tmod 2 = 0 ∧ ((fin : Nat) : Int) % 2 = 0) ∨ (((b.length : Int) - (fin : Int) == 1) = false ∧ 0 < (b.length : Int) - (fin : Int)) := by
          by_cases h1 : (b.length : Int) - (fin : Int) = 1
          · have h2 : fin % 2 = 0 := by unfold evenUp at hB hev; omega
            exact .inl ⟨h1, by rw [Int.tmod_eq_emod_of_nonneg (by omega)]; omega, by omega⟩
          · exact .inr ⟨by simpa using h1, by omega⟩
        clear hA hB hfl htx hev hpe
        rcases hcase with ⟨hA0, hm, hm2⟩ | ⟨hA0, hA1⟩
        all_goals (
          go_upto_region 5 with fail
          clear c0 c1 c2 c3 b0 b1 b2 b3 b4 b5 f0 f1 f2 f3 f4 f5 z0 z1 z2 z3 z4 z5 y0 y1 y2 y3 y4 y5
          cases hx : readExt t.wide b pe with
          | error r =>
            obtain ⟨q, er⟩ := r
            have HX0 := Lib.hid hx
            have HR := Lib.hid (readAll_e2 HF.out.1 HNE.out (by rw [HPE.out]; exact hx))
            clear hx
            go_upto_region 7 with (first
            | (go_at_call 26; refine (CE.out _ HD.out.st.rd).mono ?_; rintro e w5 ⟨rfl, hs⟩
               have hd := HD.out.next HNN.out.1 HNN.out.2.1 hs
               clear HD hs
               have HD := Lib.hid hd
               clear hd)
            | (go_at_call 27; refine (dsecond_any _ _ A cap b pe t.wide HD.out.st.rd (HA.out.tabs.next HD.out.st.ht)).mono ?_; rintro e w6 hp; unfold DSecondPost at hp; rw [HX0.out] at hp; obtain ⟨⟨A6, m6, c6, rfl⟩, hne, s', he, hbd, hs⟩ := hp
               have hd := HD.out.next HNN.out.1 HNN.out.2.1 hs
               clear HD hs
               have HD := Lib.hid hd
               have HEB := Lib.hid (And.intro hne (And.intro he hbd))
               obtain ⟨-, -, -, -, -, b5, -, -, -, -, -, f5⟩ := hd.cells
               clear hd hne he hbd))
            have hd := HD.out.set (j := 5) (x := .slice A6 m6 c6) HA.out.rd HNN.out.2.2.1 HNN.out.2.1 HNN.out.2.2.2 rfl
            clear HD b5 f5
            generalize w6.setCell ⟨w3.heap.size, 5, none⟩ (.slice A6 m6 c6) = w7 at *
            have HD := Lib.hid hd
            clear hd
            obtain ⟨c0, c1, c2, c3, -, -, -, -, -, -⟩ := HD.out.st.rd.cells
            obtain ⟨b0, b1, b2, b3, b4, b5, f0, f1, f2, f3, f4, f5⟩ := HD.out.cells
            obtain ⟨z0, z1, z2, z3, z4, z5, y0, y1, y2, y3, y4, y5⟩ := termZero_facts HD.out.res
            rw [HEB.out.2.1] at c2
            rw [HEB.out.2.2] at c3
            have e1 : (er == 0) = false := by simpa using HEB.out.1
            have e2 : (er != 0) = true := by simpa using HEB.out.1
            go_wp2_with fail
            have HX := Lib.hid (ReadPost.flaw HA.out HD.out.st HR.out)
            have HRES := Lib.hid (flaw_at HD.out.res)
            go_region
            change Exit.then _ _ _ _ (storeTerm w7 w.heap.size ⟨[], false, [], [], [], []⟩ (tri (.slice none 0 0) (.slice none 0 0) (.slice none 0 0)) (.slice none 0 0)).drew
            generalize (storeTerm w7 w.heap.size ⟨[], false, [], [], [], []⟩ (tri (.slice none 0 0) (.slice none 0 0) (.slice none 0 0)) (.slice none 0 0)).drew = w9 at *
            go_wp2
            have hres := HRES.out
            exact bodyPost_ret (by simp [results, Tryz.results8, go_sem, hres]) rfl HX.out
          | ok r =>
            obtain ⟨x, fin2⟩ := r
            have HX0 := Lib.hid hx
            have HXL := Lib.hid (readExt_len hx)
            clear hx
            go_upto_region 7 with (first
            | (go_at_call 26; refine (CE.out _ HD.out.st.rd).mono ?_; rintro e w5 ⟨rfl, hs⟩
               have hd := HD.out.next HNN.out.1 HNN.out.2.1 hs
               have hrb := HROB.out.next (hs.ht.mono fun k _ hk => .inl (by have := HSZ.out; omega))
               clear HD HROB hs
               have HD := Lib.hid hd
               have HROB := Lib.hid hrb
               clear hd hrb)
            | (go_at_call 27; refine (dsecond_any _ _ A cap b pe t.wide HD.out.st.rd (HA.out.tabs.next HD.out.st.ht)).mono ?_; rintro e w6 hp; unfold DSecondPost at hp; rw [HX0.out] at hp; obtain ⟨u, rfl, hr, ho, hs⟩ := hp
               obtain ⟨A6, c6, rfl⟩ := hr.form
               have hlt6 := (Array.getElem?_eq_some_iff.1 HD.out.box).1
               have hd := HD.out.next HNN.out.1 HNN.out.2.1 hs
               have hrb := HROB.out.next (hs.ht.mono fun k _ hk => .inl (by have := HSZ.out; omega))
               have hrx : RobT (fun k => k < w2.heap.size ∨ k = w3.heap.size) w6 (tri (.slice B0 t.bools.length m0) (.slice B1 t.nums.length m1) (.slice B2 t.strs.length m2)) (.slice A6 x.length c6) { t with exts := x } := RobT.mk4 (hrb.caps 0 (by omega)) (hrb.caps 1 (by omega)) (hrb.caps 2 (by omega)) (fun W' hW => ExtRow.reads (own_same hr fun k hk => hW.block k (own_lt hr k hk).2 (by have := ho k hk; have := HNN.out; omega)) (by have := HXL.out; show x.length * 56 ≤ _; omega))
               clear HD HROB hs hrb hr ho hlt6
               have HD := Lib.hid hd
               have HROB := Lib.hid hrx
               obtain ⟨-, -, -, -, -, b5, -, -, -, -, -, f5⟩ := hd.cells
               clear hd hrx))
            have hd := HD.out.set (j := 5) (x := .slice A6 x.length c6) HA.out.rd HNN.out.2.2.1 HNN.out.2.1 HNN.out.2.2.2 rfl
            have hrb := HROB.out.next (Touch.setCell (T := fun k => k < w2.heap.size ∨ k = w3.heap.size) w6 ⟨w3.heap.size, 5, none⟩ (.slice A6 x.length c6) (.inr rfl))
            clear HD HROB b5 f5
            generalize w6.setCell ⟨w3.heap.size, 5, none⟩ (.slice A6 x.length c6) = w7 at *
            have HD := Lib.hid hd
            have HROB := Lib.hid hrb
            clear hd hrb
            obtain ⟨c0, c1, c2, c3, -, -, -, -, -, -⟩ := HD.out.st.rd.cells
            obtain ⟨b0, b1, b2, b3, b4, b5, f0, f1, f2, f3, f4, f5⟩ := HD.out.cells
            obtain ⟨z0, z1, z2, z3, z4, z5, y0, y1, y2, y3, y4, y5⟩ := termZero_facts HD.out.res
            by_cases hf2 : fin2 < b.length
            · have i2 : (fin2 : Int) < (b.length : Int) := by omega
              have HR := Lib.hid (readAll_e3 HF.out.1 HNE.out (by rw [HPE.out]; exact HX0.out) hf2)
              have CX := Lib.hid (dfail_any w7 _ _ b _ 34 fin2 HD.out.st.rd)
              clear hf2
              go_upto_region 9 with (first
              | (go_at_call 28; refine (CX.out).mono ?_; rw [failS_ok rfl]; rintro e w8 ⟨rfl, hs⟩
                 have hd := HD.out.next HNN.out.1 HNN.out.2.1 hs
                 clear c0 c1 c2 c3 b0 b1 b2 b3 b4 b5 f0 f1 f2 f3 f4 f5 z0 z1 z2 z3 z4 z5 y0 y1 y2 y3 y4 y5
                 clear HD hs CX
                 have HD := Lib.hid hd
                 clear hd))
              obtain ⟨c0, c1, c2, c3, -, -, -, -, -, -⟩ := HD.out.st.rd.cells
              obtain ⟨b0, b1, b2, b3, b4, b5, f0, f1, f2, f3, f4, f5⟩ := HD.out.cells
              obtain ⟨z0, z1, z2, z3, z4, z5, y0, y1, y2, y3, y4, y5⟩ := termZero_facts HD.out.res
              go_wp2_with fail
              have HX := Lib.hid (ReadPost.flaw HA.out HD.out.st HR.out)
              have HRES := Lib.hid (flaw_at HD.out.res)
              go_region
              change Exit.then _ _ _ _ (storeTerm w8 w.heap.size ⟨[], false, [], [], [], []⟩ (tri (.slice none 0 0) (.slice none 0 0) (.slice none 0 0)) (.slice none 0 0)).drew
              generalize (storeTerm w8 w.heap.size ⟨[], false, [], [], [], []⟩ (tri (.slice none 0 0) (.slice none 0 0) (.slice none 0 0)) (.slice none 0 0)).drew = w9 at *
              go_wp2
              have hres := HRES.out
              exact bodyPost_ret (by simp [results, Tryz.results8, go_sem, hres]) rfl HX.out
            · have i2 : ((fin2 : Int) < (b.length : Int)) = False := by simp; omega
              have HR := Lib.hid (readAll_ok HF.out.1 HNE.out (by rw [HPE.out]; exact HX0.out) hf2)
              clear hf2
              have HX := Lib.hid (ReadPost.term (t := { t with exts := x }) HA.out HD.out.st HROB.out (fun k hk => .inl hk) HR.out)
              have HRES := Lib.hid (term_at HD.out.res { t with exts := x } (.slice B0 t.bools.length m0) (.slice B1 t.nums.length m1) (.slice B2 t.strs.length m2) (.slice A6 x.length c6))
              go_wp2_with fail
              change bodyPost _ _ _ _ _ (storeTerm w7 w.heap.size { t with exts := x } (tri (.slice B0 t.bools.length m0) (.slice B1 t.nums.length m1) (.slice B2 t.strs.length m2)) (.slice A6 x.length c6))
              generalize storeTerm w7 w.heap.size { t with exts := x } (tri (.slice B0 t.bools.length m0) (.slice B1 t.nums.length m1) (.slice B2 t.strs.length m2)) (.slice A6 x.length c6) = w9 at *
              have hres := HRES.out
              exact bodyPost_ret (by simp [results, Tryz.results8, go_sem, hres]; exact ⟨rfl, rfl, rfl⟩) rfl HX.out)
end Go.Proofs.YtcfgppjhgobboaaGreatDoor
