/-
  How package tparm reads a sequence, and a run of bytes.
-/
import Derived.Test.YtapihomdfdhnnaaDoorTpLex3a
import Derived.Test.YtapihomdfdhnnaaDoorTpLex3b
namespace Go.Proofs.YtapihomdfdhnnaaDoor
open Go.RowKit Go.Shelf Go.Lib
attribute [local go_sem] Oper.semAt_some

theorem formatted_any (s : List UInt8) (h2 : 2 ≤ s.length) (hl : s.length ≤ 4000000) (w : World) : Calls Tryd.prog 62 #[str s] w (FirstPost w (formattedP s)) := by
  by_cases h : byteAt s 1 = 58
  · exact formatted_colon s h2 hl w h
  · exact formatted_plain s h2 hl w h
abbrev zeroItem : Obj := .cells #[.int .i64 0, .int .u8 0, .int .i32 0, .string ⟨#[]⟩, .bool false, .bool false, .bool false, .bool false, .bool false, .int .i64 0, .int .i64 0] 75
theorem item_end {fn : Func} {R : Ending → World → Prop} {a : Act} {W : World} {n : Nat} {ty : TypeId} {v0 v1 v2 v3 v4 v5 v6 v7 v8 v9 v10 x : Value} (hfn : fn.results = #[.cell 2 75, .tmp 3]) (h2 : a.tmps[2]? = some (.pointer (some ⟨n, 0, none⟩))) (h3 : a.tmps[3]? = some x) (hd : a.defers = []) (h : W.heap[n]? = some (.cells #[v0, v1, v2, v3, v4, v5, v6, v7, v8, v9, v10] ty (0, 0)))
    (hR : R (.returned (.tuple #[.agg #[v0, v1, v2, v3, v4, v5, v6, v7, v8, v9, v10], x])) W) : bodyPost Tryd.prog fn R .ret a W := by
  have hr := fun i => cell_of_row W n i _ _ _ h
  have r0 := hr 0
  have r1 := hr 1
  have r2 := hr 2
  have r3 := hr 3
  have r4 := hr 4
  have r5 := hr 5
  have r6 := hr 6
  have r7 := hr 7
  have r8 := hr 8
  have r9 := hr 9
  have r10 := hr 10
  exact bodyPost_ret (v := .tuple #[.agg #[v0, v1, v2, v3, v4, v5, v6, v7, v8, v9, v10], x]) (by simp [results, hfn, go_sem, h2, h3, r0, r1, r2, r3, r4, r5, r6, r7, r8, r9, r10]) hd hR
theorem box_of {w w1 : World} {o : Obj} (hb : Below (w.alloc o).heap.size (w.alloc o) w1) : w1.heap[w.heap.size]? = some o := (hb.block _ (by simp)).trans (alloc_new w o)
theorem below_of {w w1 : World} {o : Obj} (hb : Below (w.alloc o).heap.size (w.alloc o) w1) : Below w.heap.size w w1 := ((Below.refl _ w).alloc (Nat.le_refl _) o).trans (hb.mono (by simp))

theorem ne_byte {c : UInt8} {d : Nat} (h : ¬ c = UInt8.ofNat d) (hd : d < 256) : ((c.toNat : Int) == (d : Int)) = false := by
  have : c.toNat ≠ d := fun e => h (UInt8.toNat_inj.1 (by rw [e]; simp; omega))
  simp; omega
/-- the sequences that are told by their first byte -/
theorem sequence_short (s : List UInt8) (h : s.length < 2) (w : World) : Calls Tryd.prog 42 #[str s] w (FirstPost w (sequenceP s)) := by
  have HP : sequenceP s = (item0, 0) := by unfold sequenceP; rw [if_pos h]
  rw [HP]
  have i1 : (s.length : Int) < 2 := by omega
  clear HP h
  go_enter Tryd.func42, Tryd.ntmps42
  go_wp2_with fail
  exact bodyPost_ret (v := .tuple #[plainV 0 0 [], .int .i64 0]) (by simp [results, Tryd.results42, go_sem]) rfl ⟨rfl, (Below.refl _ _).alloc (Nat.le_refl _) _⟩
theorem wrap32_byte (c : UInt8) : wrap32 (c.toNat : Int) = (c.toNat : Int) := by
  have := c.toNat_lt
  unfold wrap32
  omega
set_option maxRecDepth 100000 in
set_option maxHeartbeats 4000000 in
theorem sequence_p (s : List UInt8) (h2 : 2 ≤ s.length) (h : byteAt s 1 = 112) (w : World) : Calls Tryd.prog 42 #[str s] w (FirstPost w (sequenceP s)) := by
  have hi1 : (1 : Int) < (s.length : Int) := by omega
  have hn1 : 1 < s.length := by omega
  have ec1 := at_byte hn1
  have hnl : ¬ (s.length : Int) < 2 := by omega
  by_cases h3 : 2 < s.length
  · have hi2 : (2 : Int) < (s.length : Int) := by omega
    have ec2 := at_byte h3
    by_cases hd : 49 ≤ (byteAt s 2).toNat ∧ (byteAt s 2).toNat ≤ 57
    · have HP := Lib.hid (show sequenceP s = (⟨0, 112, (byteAt s 2).toNat - 48, [], fmtZ⟩, 3) by unfold sequenceP; rw [if_neg (by omega), if_pos h, if_pos ⟨h3, hd.1, hd.2⟩])
      rw [h] at ec1
      generalize byteAt s 2 = c2 at *
      have j1 : (49 : Int) ≤ (c2.toNat : Int) := by omega
      have j2 : (c2.toNat : Int) ≤ 57 := by omega
      have w1 : IntKind.u8.wrap ((c2.toNat : Int) - 48) = (c2.toNat : Int) - 48 := by rw [IntKind.wrap_u8]; omega
      clear h hd h2
      go_enter Tryd.func42, Tryd.ntmps42
      go_wp2_with fail
      exact bodyPost_ret (v := .tuple #[plainV 112 ((c2.toNat : Int) - 48) [], .int .i64 3]) (by simp [results, Tryd.results42, go_sem]) rfl ⟨by rw [HP.out]; rfl, (Below.refl _ _).alloc (Nat.le_refl _) _⟩
    · have HP := Lib.hid (show sequenceP s = (item0, 0) by unfold sequenceP; rw [if_neg (by omega), if_pos h, if_neg (fun e => hd e.2)])
      rw [h] at ec1
      generalize byteAt s 2 = c2 at *
      clear h h2
      by_cases j1 : (49 : Int) ≤ (c2.toNat : Int)
      · have j2 : ¬ (c2.toNat : Int) ≤ 57 := by omega
        clear hd
        go_enter Tryd.func42, Tryd.ntmps42
        go_wp2_with fail
        exact bodyPost_ret (v := .tuple #[plainV 0 0 [], .int .i64 0]) (by simp [results, Tryd.results42, go_sem]) rfl ⟨by rw [HP.out]; rfl, (Below.refl _ _).alloc (Nat.le_refl _) _⟩
      · clear hd
        go_enter Tryd.func42, Tryd.ntmps42
        go_wp2_with fail
        exact bodyPost_ret (v := .tuple #[plainV 0 0 [], .int .i64 0]) (by simp [results, Tryd.results42, go_sem]) rfl ⟨by rw [HP.out]; rfl, (Below.refl _ _).alloc (Nat.le_refl _) _⟩
  · have HP := Lib.hid (show sequenceP s = (item0, 0) by unfold sequenceP; rw [if_neg (by omega), if_pos h, if_neg (fun e => h3 e.1)])
    have hi2 : ¬ (2 : Int) < (s.length : Int) := by omega
    rw [h] at ec1
    clear h h2
    go_enter Tryd.func42, Tryd.ntmps42
    go_wp2_with fail
    exact bodyPost_ret (v := .tuple #[plainV 0 0 [], .int .i64 0]) (by simp [results, Tryd.results42, go_sem]) rfl ⟨by rw [HP.out]; rfl, (Below.refl _ _).alloc (Nat.le_refl _) _⟩
set_option maxRecDepth 100000 in
set_option maxHeartbeats 4000000 in
theorem sequence_P (s : List UInt8) (h2 : 2 ≤ s.length) (h : byteAt s 1 = 80) (w : World) : Calls Tryd.prog 42 #[str s] w (FirstPost w (sequenceP s)) := by
  have hi1 : (1 : Int) < (s.length : Int) := by omega
  have hn1 : 1 < s.length := by omega
  have ec1 := at_byte hn1
  have hnl : ¬ (s.length : Int) < 2 := by omega
  by_cases h3 : 2 < s.length
  · have hi2 : (2 : Int) < (s.length : Int) := by omega
    have ec2 := at_byte h3
    have CL := Lib.hid (fun W => letter_any (byteAt s 2) W)
    cases hd : isLetterP (byteAt s 2) with
    | true =>
      have HP := Lib.hid (show sequenceP s = (⟨0, 80, (byteAt s 2).toNat, [], fmtZ⟩, 3) by unfold sequenceP; rw [if_neg (by omega), if_neg (by rw [h]; decide), if_pos (.inl h), if_pos ⟨h3, hd⟩, h])
      rw [h] at ec1
      rw [hd] at CL
      generalize byteAt s 2 = c2 at *
      clear h hd h2
      have w32e : wrap32 (c2.toNat : Int) = (c2.toNat : Int) := wrap32_byte c2
      go_enter Tryd.func42, Tryd.ntmps42
      go_wp2_with (go_at_call 60; (with_reducible refine (CL.out _).mono ?_); rintro e w' ⟨rfl, rfl⟩)
      exact bodyPost_ret (v := .tuple #[plainV 80 (c2.toNat : Int) [], .int .i64 3]) (by simp [results, Tryd.results42, go_sem, w32e]) rfl ⟨by rw [HP.out]; rfl, (Below.refl _ _).alloc (Nat.le_refl _) _⟩
    | false =>
      have HP := Lib.hid (show sequenceP s = (item0, 0) by unfold sequenceP; rw [if_neg (by omega), if_neg (by rw [h]; decide), if_pos (.inl h), if_neg (fun e => by rw [hd] at e; exact absurd e.2 (by decide))])
      rw [h] at ec1
      rw [hd] at CL
      generalize byteAt s 2 = c2 at *
      clear h hd h2
      go_enter Tryd.func42, Tryd.ntmps42
      go_wp2_with (go_at_call 60; (with_reducible refine (CL.out _).mono ?_); rintro e w' ⟨rfl, rfl⟩)
      exact bodyPost_ret (v := .tuple #[plainV 0 0 [], .int .i64 0]) (by simp [results, Tryd.results42, go_sem]) rfl ⟨by rw [HP.out]; rfl, (Below.refl _ _).alloc (Nat.le_refl _) _⟩
  · have HP := Lib.hid (show sequenceP s = (item0, 0) by unfold sequenceP; rw [if_neg (by omega), if_neg (by rw [h]; decide), if_pos (.inl h), if_neg (fun e => h3 e.1)])
    have hi2 : ¬ (2 : Int) < (s.length : Int) := by omega
    rw [h] at ec1
    clear h h2
    go_enter Tryd.func42, Tryd.ntmps42
    go_wp2_with fail
    exact bodyPost_ret (v := .tuple #[plainV 0 0 [], .int .i64 0]) (by simp [results, Tryd.results42, go_sem]) rfl ⟨by rw [HP.out]; rfl, (Below.refl _ _).alloc (Nat.le_refl _) _⟩
set_option maxRecDepth 100000 in
set_option maxHeartbeats 4000000 in
theorem sequence_g (s : List UInt8) (h2 : 2 ≤ s.length) (h : byteAt s 1 = 103) (w : World) : Calls Tryd.prog 42 #[str s] w (FirstPost w (sequenceP s)) := by
  have hi1 : (1 : Int) < (s.length : Int) := by omega
  have hn1 : 1 < s.length := by omega
  have ec1 := at_byte hn1
  have hnl : ¬ (s.length : Int) < 2 := by omega
  by_cases h3 : 2 < s.length
  · have hi2 : (2 : Int) < (s.length : Int) := by omega
    have ec2 := at_byte h3
    have CL := Lib.hid (fun W => letter_any (byteAt s 2) W)
    cases hd : isLetterP (byteAt s 2) with
    | true =>
      have HP := Lib.hid (show sequenceP s = (⟨0, 103, (byteAt s 2).toNat, [], fmtZ⟩, 3) by unfold sequenceP; rw [if_neg (by omega), if_neg (by rw [h]; decide), if_pos (.inr h), if_pos ⟨h3, hd⟩, h])
      rw [h] at ec1
      rw [hd] at CL
      generalize byteAt s 2 = c2 at *
      clear h hd h2
      have w32e : wrap32 (c2.toNat : Int) = (c2.toNat : Int) := wrap32_byte c2
      go_enter Tryd.func42, Tryd.ntmps42
      go_wp2_with (go_at_call 60; (with_reducible refine (CL.out _).mono ?_); rintro e w' ⟨rfl, rfl⟩)
      exact bodyPost_ret (v := .tuple #[plainV 103 (c2.toNat : Int) [], .int .i64 3]) (by simp [results, Tryd.results42, go_sem, w32e]) rfl ⟨by rw [HP.out]; rfl, (Below.refl _ _).alloc (Nat.le_refl _) _⟩
    | false =>
      have HP := Lib.hid (show sequenceP s = (item0, 0) by unfold sequenceP; rw [if_neg (by omega), if_neg (by rw [h]; decide), if_pos (.inr h), if_neg (fun e => by rw [hd] at e; exact absurd e.2 (by decide))])
      rw [h] at ec1
      rw [hd] at CL
      generalize byteAt s 2 = c2 at *
      clear h hd h2
      go_enter Tryd.func42, Tryd.ntmps42
      go_wp2_with (go_at_call 60; (with_reducible refine (CL.out _).mono ?_); rintro e w' ⟨rfl, rfl⟩)
      exact bodyPost_ret (v := .tuple #[plainV 0 0 [], .int .i64 0]) (by simp [results, Tryd.results42, go_sem]) rfl ⟨by rw [HP.out]; rfl, (Below.refl _ _).alloc (Nat.le_refl _) _⟩
  · have HP := Lib.hid (show sequenceP s = (item0, 0) by unfold sequenceP; rw [if_neg (by omega), if_neg (by rw [h]; decide), if_pos (.inr h), if_neg (fun e => h3 e.1)])
    have hi2 : ¬ (2 : Int) < (s.length : Int) := by omega
    rw [h] at ec1
    clear h h2
    go_enter Tryd.func42, Tryd.ntmps42
    go_wp2_with fail
    exact bodyPost_ret (v := .tuple #[plainV 0 0 [], .int .i64 0]) (by simp [results, Tryd.results42, go_sem]) rfl ⟨by rw [HP.out]; rfl, (Below.refl _ _).alloc (Nat.le_refl _) _⟩
set_option maxRecDepth 100000 in
set_option maxHeartbeats 4000000 in
theorem sequence_q (s : List UInt8) (h2 : 2 ≤ s.length) (h : byteAt s 1 = 39) (w : World) : Calls Tryd.prog 42 #[str s] w (FirstPost w (sequenceP s)) := by
  have hi1 : (1 : Int) < (s.length : Int) := by omega
  have hn1 : 1 < s.length := by omega
  have ec1 := at_byte hn1
  have hnl : ¬ (s.length : Int) < 2 := by omega
  by_cases h3 : 3 < s.length
  · have hi2 : (2 : Int) < (s.length : Int) := by omega
    have hi3 : (3 : Int) < (s.length : Int) := by omega
    have hn2 : 2 < s.length := by omega
    have ec2 := at_byte hn2
    have ec3 := at_byte h3
    by_cases hd : byteAt s 3 = 39
    · have HP := Lib.hid (show sequenceP s = (⟨0, 123, (byteAt s 2).toNat, [], fmtZ⟩, 4) by unfold sequenceP; rw [if_neg (by omega), if_neg (by rw [h]; decide), if_neg (by rw [h]; decide), if_pos h, if_pos ⟨h3, hd⟩])
      rw [h] at ec1
      rw [hd] at ec3
      generalize byteAt s 2 = c2 at *
      clear h hd h2
      have w32e : wrap32 (c2.toNat : Int) = (c2.toNat : Int) := wrap32_byte c2
      go_enter Tryd.func42, Tryd.ntmps42
      go_wp2_with fail
      exact bodyPost_ret (v := .tuple #[plainV 123 (c2.toNat : Int) [], .int .i64 4]) (by simp [results, Tryd.results42, go_sem]) rfl ⟨by rw [HP.out]; rfl, (Below.refl _ _).alloc (Nat.le_refl _) _⟩
    · have HP := Lib.hid (show sequenceP s = (item0, 0) by unfold sequenceP; rw [if_neg (by omega), if_neg (by rw [h]; decide), if_neg (by rw [h]; decide), if_pos h, if_neg (fun e => hd e.2)])
      have hq := ne_byte (d := 39) hd (by decide)
      rw [h] at ec1
      generalize byteAt s 2 = c2 at *
      generalize byteAt s 3 = c3 at *
      clear h hd h2
      go_enter Tryd.func42, Tryd.ntmps42
      go_wp2_with fail
      exact bodyPost_ret (v := .tuple #[plainV 0 0 [], .int .i64 0]) (by simp [results, Tryd.results42, go_sem]) rfl ⟨by rw [HP.out]; rfl, (Below.refl _ _).alloc (Nat.le_refl _) _⟩
  · have HP := Lib.hid (show sequenceP s = (item0, 0) by unfold sequenceP; rw [if_neg (by omega), if_neg (by rw [h]; decide), if_neg (by rw [h]; decide), if_pos h, if_neg (fun e => h3 e.1)])
    have hi2 : ¬ (3 : Int) < (s.length : Int) := by omega
    rw [h] at ec1
    clear h h2
    go_enter Tryd.func42, Tryd.ntmps42
    go_wp2_with fail
    exact bodyPost_ret (v := .tuple #[plainV 0 0 [], .int .i64 0]) (by simp [results, Tryd.results42, go_sem]) rfl ⟨by rw [HP.out]; rfl, (Below.refl _ _).alloc (Nat.le_refl _) _⟩
set_option maxRecDepth 100000 in
set_option maxHeartbeats 4000000 in
theorem sequence_n (s : List UInt8) (h2 : 2 ≤ s.length) (hl : s.length ≤ 4000000) (h : byteAt s 1 = 123) (w : World) : Calls Tryd.prog 42 #[str s] w (FirstPost w (sequenceP s)) := by
  have hi1 : (1 : Int) < (s.length : Int) := by omega
  have hn1 : 1 < s.length := by omega
  have ec1 := at_byte hn1
  have hnl : ¬ (s.length : Int) < 2 := by omega
  have HP := Lib.hid (show sequenceP s = integerP s by unfold sequenceP; rw [if_neg (by omega), if_neg (by rw [h]; decide), if_neg (by rw [h]; decide), if_neg (by rw [h]; decide), if_pos h])
  have CI := Lib.hid (fun W => integer_any s h2 hl W)
  have CV := Lib.hid True.intro
  unfold FirstPost at CI
  generalize integerP s = r at *
  rw [h] at ec1
  clear h h2 hl
  go_enter Tryd.func42, Tryd.ntmps42
  go_wp2_with (first
    | (go_at_call 41; (with_reducible refine (CV.out _).mono ?_); rintro e w' ⟨rfl, rfl⟩)
    | (go_at_call 61; (with_reducible refine (CI.out _).mono ?_); rintro e w1 ⟨rfl, hb1⟩; have hbx := box_of hb1; have r0 := cell_of_row w1 _ 0 _ _ _ hbx; have r1 := cell_of_row w1 _ 1 _ _ _ hbx; have r2 := cell_of_row w1 _ 2 _ _ _ hbx; have r3 := cell_of_row w1 _ 3 _ _ _ hbx; have r4 := cell_of_row w1 _ 4 _ _ _ hbx; have r5 := cell_of_row w1 _ 5 _ _ _ hbx; have r6 := cell_of_row w1 _ 6 _ _ _ hbx; have r7 := cell_of_row w1 _ 7 _ _ _ hbx; have r8 := cell_of_row w1 _ 8 _ _ _ hbx; have r9 := cell_of_row w1 _ 9 _ _ _ hbx; have r10 := cell_of_row w1 _ 10 _ _ _ hbx; have hfr := fun i => frozen_of_row w1 _ i _ _ hbx; have HB1 := Lib.hid (And.intro hbx hb1); clear hbx hb1))
  with_reducible refine item_end (n := w.heap.size) (x := .int .i64 r.2) Tryd.results42 ?_ ?_ ?_ (item_set0 ?_ _ _ _ _ _ _ _ _ _ _ _) ?_
  · rfl
  · rfl
  · rfl
  · exact HB1.out.1
  · refine ⟨?_, ?_⟩
    · rw [HP.out]
    · repeat with_reducible refine Below.setCell ?_ (by simp) _
      exact below_of HB1.out.2
set_option maxRecDepth 100000 in
set_option maxHeartbeats 4000000 in
theorem sequence_v (s : List UInt8) (h2 : 2 ≤ s.length) (h1 : ¬ byteAt s 1 = 112) (hP : ¬ byteAt s 1 = 80) (hg : ¬ byteAt s 1 = 103) (hq : ¬ byteAt s 1 = 39) (hn : ¬ byteAt s 1 = 123) (h : 0 ≤ indexByte plainVerbs (byteAt s 1)) (w : World) : Calls Tryd.prog 42 #[str s] w (FirstPost w (sequenceP s)) := by
  have hi1 : (1 : Int) < (s.length : Int) := by omega
  have hn1 : 1 < s.length := by omega
  have ec1 := at_byte hn1
  have hnl : ¬ (s.length : Int) < 2 := by omega
  have q0 := ne_byte (d := 112) h1 (by decide)
  have q1 := ne_byte (d := 80) hP (by decide)
  have q2 := ne_byte (d := 103) hg (by decide)
  have q3 := ne_byte (d := 39) hq (by decide)
  have q4 := ne_byte (d := 123) hn (by decide)
  have HP := Lib.hid (show sequenceP s = (⟨0, byteAt s 1, 0, [], fmtZ⟩, 2) by unfold sequenceP; rw [if_neg (by omega), if_neg h1, if_neg (fun e => e.elim hP hg), if_neg hq, if_neg hn, if_pos h])
  have CV := Lib.hid (fun W => index_any plainVerbs (byteAt s 1) W)
  generalize indexByte plainVerbs (byteAt s 1) = iv at *
  generalize byteAt s 1 = c1 at *
  clear h1 hP hg hq hn h2
  go_enter Tryd.func42, Tryd.ntmps42
  go_wp2_with (go_at_call 41; (with_reducible refine (CV.out _).mono ?_); rintro e w' ⟨rfl, rfl⟩)
  exact bodyPost_ret (v := .tuple #[plainV (c1.toNat : Int) 0 [], .int .i64 2]) (by simp [results, Tryd.results42, go_sem]) rfl ⟨by rw [HP.out]; rfl, (Below.refl _ _).alloc (Nat.le_refl _) _⟩
set_option maxRecDepth 100000 in
set_option maxHeartbeats 4000000 in
theorem sequence_f (s : List UInt8) (h2 : 2 ≤ s.length) (hl : s.length ≤ 4000000) (h1 : ¬ byteAt s 1 = 112) (hP : ¬ byteAt s 1 = 80) (hg : ¬ byteAt s 1 = 103) (hq : ¬ byteAt s 1 = 39) (hn : ¬ byteAt s 1 = 123) (h : ¬ 0 ≤ indexByte plainVerbs (byteAt s 1)) (w : World) : Calls Tryd.prog 42 #[str s] w (FirstPost w (sequenceP s)) := by
  have hi1 : (1 : Int) < (s.length : Int) := by omega
  have hn1 : 1 < s.length := by omega
  have ec1 := at_byte hn1
  have hnl : ¬ (s.length : Int) < 2 := by omega
  have q0 := ne_byte (d := 112) h1 (by decide)
  have q1 := ne_byte (d := 80) hP (by decide)
  have q2 := ne_byte (d := 103) hg (by decide)
  have q3 := ne_byte (d := 39) hq (by decide)
  have q4 := ne_byte (d := 123) hn (by decide)
  have HP := Lib.hid (show sequenceP s = formattedP s by unfold sequenceP; rw [if_neg (by omega), if_neg h1, if_neg (fun e => e.elim hP hg), if_neg hq, if_neg hn, if_neg h])
  have CV := Lib.hid (fun W => index_any plainVerbs (byteAt s 1) W)
  have CI := Lib.hid (fun W => formatted_any s h2 hl W)
  unfold FirstPost at CI
  generalize formattedP s = r at *
  generalize indexByte plainVerbs (byteAt s 1) = iv at *
  generalize byteAt s 1 = c1 at *
  clear h1 hP hg hq hn h2 hl
  go_enter Tryd.func42, Tryd.ntmps42
  go_wp2_with (first
    | (go_at_call 41; (with_reducible refine (CV.out _).mono ?_); rintro e w' ⟨rfl, rfl⟩)
    | (go_at_call 62; (with_reducible refine (CI.out _).mono ?_); rintro e w1 ⟨rfl, hb1⟩; have hbx := box_of hb1; have r0 := cell_of_row w1 _ 0 _ _ _ hbx; have r1 := cell_of_row w1 _ 1 _ _ _ hbx; have r2 := cell_of_row w1 _ 2 _ _ _ hbx; have r3 := cell_of_row w1 _ 3 _ _ _ hbx; have r4 := cell_of_row w1 _ 4 _ _ _ hbx; have r5 := cell_of_row w1 _ 5 _ _ _ hbx; have r6 := cell_of_row w1 _ 6 _ _ _ hbx; have r7 := cell_of_row w1 _ 7 _ _ _ hbx; have r8 := cell_of_row w1 _ 8 _ _ _ hbx; have r9 := cell_of_row w1 _ 9 _ _ _ hbx; have r10 := cell_of_row w1 _ 10 _ _ _ hbx; have hfr := fun i => frozen_of_row w1 _ i _ _ hbx; have HB1 := Lib.hid (And.intro hbx hb1); clear hbx hb1))
  with_reducible refine item_end (n := w.heap.size) (x := .int .i64 r.2) Tryd.results42 ?_ ?_ ?_ (item_set0 ?_ _ _ _ _ _ _ _ _ _ _ _) ?_
  · rfl
  · rfl
  · rfl
  · exact HB1.out.1
  · refine ⟨?_, ?_⟩
    · rw [HP.out]
    · repeat with_reducible refine Below.setCell ?_ (by simp) _
      exact below_of HB1.out.2
theorem sequence_any (s : List UInt8) (hl : s.length ≤ 4000000) (w : World) : Calls Tryd.prog 42 #[str s] w (FirstPost w (sequenceP s)) := by
  by_cases h2 : s.length < 2
  · exact sequence_short s h2 w
  have h2 : 2 ≤ s.length := by omega
  by_cases h1 : byteAt s 1 = 112
  · exact sequence_p s h2 h1 w
  by_cases hP : byteAt s 1 = 80
  · exact sequence_P s h2 hP w
  by_cases hg : byteAt s 1 = 103
  · exact sequence_g s h2 hg w
  by_cases hq : byteAt s 1 = 39
  · exact sequence_q s h2 hq w
  by_cases hn : byteAt s 1 = 123
  · exact sequence_n s h2 hl hn w
  by_cases h : 0 ≤ indexByte plainVerbs (byteAt s 1)
  · exact sequence_v s h2 h1 hP hg hq hn h w
  · exact sequence_f s h2 hl h1 hP hg hq hn h w
end Go.Proofs.YtapihomdfdhnnaaDoor
