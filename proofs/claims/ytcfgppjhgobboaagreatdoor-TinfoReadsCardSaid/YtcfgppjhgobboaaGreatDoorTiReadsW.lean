/-
  Where a file is wrong: never behind its end. No program is walked here, and nothing is assumed.
  The law TinfoReads, walked.
-/
import Derived.Test.YtcfgppjhgobboaaGreatDoorTiTerm1
import Derived.Test.YtcfgppjhgobboaaGreatDoorTiDi
import Derived.Test.YtcfgppjhgobboaaGreatDoorTmObjs
import Derived.Test.YtcfgppjhgobboaaGreatDoorTiRefSame
namespace Go.Proofs.YtcfgppjhgobboaaGreatDoor
section
open Go.RowKit Go.Lib

theorem evenUp_ge (n : Nat) : n ≤ evenUp n := by unfold evenUp; omega
theorem lay1_le (wide : Bool) (c : Nat → Nat) : (lay1 wide c).strs + 2 * c 3 ≤ (lay1 wide c).fin := by unfold lay1; simp only; omega
theorem lay2_le (wide : Bool) (p : Nat) (c : Nat → Nat) : (lay2 wide p c).strs + 2 * c 2 ≤ (lay2 wide p c).fin ∧ (lay2 wide p c).names + 2 * (c 0 + c 1 + c 2) ≤ (lay2 wide p c).fin := by unfold lay2; simp only; omega
theorem first_pos {b : List UInt8} {q : Nat} {er : Int} (h : readFirst b = .error (q, er)) : q ≤ b.length := by
  unfold readFirst at h
  split at h
  · injection h with h; injection h with h _; omega
  next h1 =>
  split at h
  · injection h with h; injection h with h _; omega
  split at h
  next i hf =>
    injection h with h; injection h with h _
    have := (firstBad_of hf).1
    omega
  simp only at h
  split at h
  · injection h with h; injection h with h _; omega
  next h2 =>
  split at h
  · injection h with h; injection h with h _; omega
  split at h
  next i hf =>
    injection h with h; injection h with h _
    have h3 := (firstBad_of hf).1
    have h4 := lay1_le (decide (shortAt b 0 = 542)) (cnt b 2)
    omega
  · cases h
theorem ext_pos {wide : Bool} {b : List UInt8} {p q : Nat} {er : Int} (h : readExt wide b p = .error (q, er)) : q ≤ b.length := by
  unfold readExt at h
  split at h
  · injection h with h; injection h with h _; omega
  next h1 =>
  split at h
  next i hf =>
    injection h with h; injection h with h _
    have := (firstBad_of hf).1
    omega
  simp only at h
  split at h
  · injection h with h; injection h with h _; omega
  next h2 =>
  have h4 := lay2_le wide p (cnt b p)
  split at h
  · injection h with h; injection h with h _; omega
  split at h
  next i hf =>
    injection h with h; injection h with h _
    have h3 := (firstBad_of hf).1
    omega
  split at h
  next i hf =>
    injection h with h; injection h with h _
    have h3 := (firstBad_of hf).1
    omega
  · cases h
theorem all_pos {b : List UInt8} {q : Nat} {er : Int} (h : readAll b = .error (q, er)) : q ≤ b.length := by
  unfold readAll at h
  split at h
  next e hf => injection h with h; subst h; exact first_pos hf
  split at h
  · cases h
  split at h
  next e hf => injection h with h; subst h; exact ext_pos hf
  split at h
  · injection h with h; injection h with h _; omega
  · cases h
end

section
open Go.RowKit Go.Shelf Go.Lib
attribute [local go_sem] Oper.semAt_some

/-- Read's answer, plain: the entry and the numbers -/
def readT (b : List UInt8) : TermD := match readAll b with | .error _ => term00 | .ok t => t
def readN (b : List UInt8) : Nat := match readAll b with | .error q => q.1 | .ok _ => 0
def readE (b : List UInt8) : Int := match readAll b with | .error q => q.2 | .ok _ => 0
theorem readN_le (b : List UInt8) : readN b ≤ b.length := by
  unfold readN
  split
  · next q h => exact all_pos (q := q.1) (er := q.2) h
  · exact Nat.zero_le _
theorem ReadPost.plain {w w' : World} {b : List UInt8} {e : Ending} (h : ReadPost w b e w') : ∃ B0 m0 B1 m1 B2 m2 B3 m3, e = .returned (.tuple #[.agg #[str (readT b).names, .bool (readT b).wide, .slice B0 (readT b).bools.length m0, .slice B1 (readT b).nums.length m1, .slice B2 (readT b).strs.length m2, .slice B3 (readT b).exts.length m3], .int .i64 (readN b : Nat), .int .i64 (readE b)]) ∧
    TermV w' (tri (.slice B0 (readT b).bools.length m0) (.slice B1 (readT b).nums.length m1) (.slice B2 (readT b).strs.length m2)) (.slice B3 (readT b).exts.length m3) (readT b) ∧ Below w.heap.size w w' := by
  obtain ⟨hb, hm⟩ := h
  unfold readT readN readE
  cases hr : readAll b with
  | error q =>
    rw [hr] at hm
    subst hm
    refine ⟨none, 0, none, 0, none, 0, none, 0, rfl, ?_, hb⟩
    have hn : Rob (fun _ => False) w' (.slice none 0 0) [] := Rob.of_row (World.ownsRow_nil _ _ _ _) (fun b h => by cases h) (by simp)
    exact (RobT.mk4 (t := term00) hn hn hn (fun W' _ => extsV_nil W')).val
  | ok t =>
    rw [hr] at hm
    obtain ⟨x0, x1, x2, xe, rfl, hrob⟩ := hm
    obtain ⟨B0, m0, rfl, _⟩ := CapsV.form (show CapsV w' x0 t.bools from (hrob.caps 0 (by omega)).val)
    obtain ⟨B1, m1, rfl, _⟩ := CapsV.form (show CapsV w' x1 t.nums from (hrob.caps 1 (by omega)).val)
    obtain ⟨B2, m2, rfl, _⟩ := CapsV.form (show CapsV w' x2 t.strs from (hrob.caps 2 (by omega)).val)
    obtain ⟨B3, m3, rfl, _⟩ := ExtsV.form (hrob.exts w' (Touch.refl _ _))
    exact ⟨B0, m0, B1, m1, B2, m2, B3, m3, rfl, hrob.val, hb⟩
set_option maxRecDepth 100000 in
set_option maxHeartbeats 4000000 in
theorem reads_walk (w : World) (v : Value) (b : List UInt8) (h : BytesV w v b) (hT : Tabs w) :
    Calls Tryz.prog 3 #[v] w fun e w' => e = .returned (.bool true) ∧ Below w.heap.size w w' := by
  obtain ⟨A, cap, rfl, _, hsm⟩ := h.form
  have CR := Lib.hid (read_any w A cap b h hT)
  have CD := Lib.hid (fun W (hW : Below w.heap.size w W) => dread_any W A cap b (h.below hW) (hT.below hW))
  have HO := Lib.hid (Objs.none hT)
  have hle := readN_le b
  have i1 : ((readN b : Nat) : Int) ≤ (b.length : Int) := by omega
  have i2 : (0 : Int) ≤ ((readN b : Nat) : Int) := by omega
  clear h hT hle hsm
  have CR1 := Lib.hid ((CR.out).mono fun e w' h => ReadPost.plain h)
  have CD1 := Lib.hid (fun W hW => (CD.out W hW).mono fun e w' h => ReadPost.plain h)
  clear CR CD
  generalize readT b = t at *
  generalize readN b = n at *
  generalize readE b = er at *
  go_enter Tryz.func3, Tryz.ntmps3
  go_wp2_with (first
    | (go_at_call 7; refine (CR1.out).mono ?_; rintro e W1 ⟨B0, m0, B1, m1, B2, m2, B3, m3, rfl, hu, hb⟩
       have HO2 := Lib.hid ((HO.out.next hb).push (termObj t.names t.wide (.slice B0 t.bools.length m0) (.slice B1 t.nums.length m1) (.slice B2 t.strs.length m2) (.slice B3 t.exts.length m3)))
       have HU := Lib.hid (hu.below (below_alloc W1 (termObj t.names t.wide (.slice B0 t.bools.length m0) (.slice B1 t.nums.length m1) (.slice B2 t.strs.length m2) (.slice B3 t.exts.length m3))))
       clear hu hb)
    | (go_at_call 8; refine (CD1.out _ HO2.out.below).mono ?_; rintro e W2 ⟨D0, q0, D1, q1, D2, q2, D3, q3, rfl, hu, hb⟩
       have HO3 := Lib.hid ((HO2.out.next hb).push (termObj t.names t.wide (.slice D0 t.bools.length q0) (.slice D1 t.nums.length q1) (.slice D2 t.strs.length q2) (.slice D3 t.exts.length q3)))
       have HX := Lib.hid (hu.below (below_alloc W2 (termObj t.names t.wide (.slice D0 t.bools.length q0) (.slice D1 t.nums.length q1) (.slice D2 t.strs.length q2) (.slice D3 t.exts.length q3))))
       have HU2 := Lib.hid ((HU.out.below hb).below (below_alloc W2 (termObj t.names t.wide (.slice D0 t.bools.length q0) (.slice D1 t.nums.length q1) (.slice D2 t.strs.length q2) (.slice D3 t.exts.length q3))))
       clear hu hb)
    | (go_at_call 9; refine (live_any _ HO3.out.tabs).mono ?_; rintro e W3 ⟨rfl, hb⟩
       have HO4 := Lib.hid (HO3.out.next hb)
       have HX3 := Lib.hid (HX.out.below hb)
       have HU3 := Lib.hid (HU2.out.below hb)
       have CM := Lib.hid (refSame_eq W3 t _ _ _ _ HU3.out HX3.out)
       clear hb
       obtain ⟨c0, c1, c2, c3, c4, c5⟩ := HO4.out.term (.tail _ (.head _))
       obtain ⟨d0, d1, d2, d3, d4, d5⟩ := HO4.out.term (.head _))
    | (go_at_call 10; refine (CM.out).mono ?_; rintro e W4 ⟨rfl, hb⟩
       have HO5 := Lib.hid (HO4.out.next hb)
       clear hb CM c0 c1 c2 c3 c4 c5 d0 d1 d2 d3 d4 d5))
  go_ret
  exact ⟨rfl, HO5.out.below⟩
end
end Go.Proofs.YtcfgppjhgobboaaGreatDoor
