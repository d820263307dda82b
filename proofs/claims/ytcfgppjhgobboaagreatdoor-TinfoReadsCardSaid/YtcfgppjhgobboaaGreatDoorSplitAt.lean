/-
  strings.SplitSeq at one byte, whichever it is: the iterator that it returns gives the parts between such bytes, in turn.
-/
import Derived.Test.YtcfgppjhgobboaaGreatDoorTmBase
import Derived.Test.YtcfgppjhgobboaaGreatDoorTiLay
namespace Go.Proofs.YtcfgppjhgobboaaGreatDoor
open Go.RowKit Go.Shelf Go.Lib
attribute [local go_sem] Oper.semAt_some

/-- the parts of a text between the bytes z -/
def partsAt (z : UInt8) : List UInt8 → List (List UInt8)
  | [] => [[]]
  | c :: r => if c = z then [] :: partsAt z r else
    match partsAt z r with
    | n :: t => (c :: n) :: t
    | [] => [[c]]
theorem partsAt_ne (z : UInt8) (s : List UInt8) : partsAt z s ≠ [] := by
  cases s with
  | nil => simp [partsAt]
  | cons c r =>
    simp only [partsAt]
    split
    · simp
    · split <;> simp
theorem partsAt_cons (z c : UInt8) (r : List UInt8) (h : c ≠ z) : partsAt z (c :: r) = (c :: (partsAt z r).headD []) :: (partsAt z r).tail := by
  simp only [partsAt, if_neg h]
  cases hn : partsAt z r with
  | nil => exact absurd hn (partsAt_ne z r)
  | cons n t => rfl
theorem partsAt_plain (z : UInt8) (s : List UInt8) (h : ∀ k : Nat, s[k]? ≠ some z) : partsAt z s = [s] := by
  induction s with
  | nil => rfl
  | cons c r ih =>
    have hc : c ≠ z := fun e => h 0 (by simp [e])
    rw [partsAt_cons z c r hc, ih fun k => by have := h (k + 1); simpa using this]
    rfl
theorem partsAt_cut (z : UInt8) (s : List UInt8) (i : Nat) (h1 : s[i]? = some z) (h2 : ∀ k : Nat, k < i → s[k]? ≠ some z) : partsAt z s = s.take i :: partsAt z (s.drop (i + 1)) := by
  induction s generalizing i with
  | nil => simp at h1
  | cons c r ih =>
    cases i with
    | zero =>
      simp at h1
      subst h1
      simp [partsAt]
    | succ i =>
      have hc : c ≠ z := fun e => h2 0 (by omega) (by simp [e])
      have := ih i (by simpa using h1) fun k hk => by have := h2 (k + 1) (by omega); simpa using this
      rw [partsAt_cons z c r hc, this]
      simp

/-- what one call of Index tells -/
theorem partsAt_none {z : UInt8} {s : List UInt8} (h : indexByte s z = -1) : partsAt z s = [s] := partsAt_plain z s fun k => indexByte_none h k
theorem partsAt_some {z : UInt8} {s : List UInt8} {i : Nat} (h : indexByte s z = i) : partsAt z s = s.take i :: partsAt z (s.drop (i + 1)) :=
  partsAt_cut z s i (indexByte_some h).1 (indexByte_some h).2
theorem indexAt_lt {z : UInt8} {s : List UInt8} {i : Nat} (h : indexByte s z = i) : i < s.length := (List.getElem?_eq_some_iff.1 (indexByte_some h).1).1
theorem index_at (z : UInt8) (s : ByteArray) (w : World) :
    Calls Tryz.prog 144 #[.string s, .string ⟨#[z]⟩] w fun e w' => e = .returned (.int .i64 (indexByte s.data.toList z)) ∧ w = w' := (Any.strings_Index_one Tryz.layIndex s z w).mono fun _ _ ⟨h1, h2⟩ => ⟨h1, h2.symm⟩

/-- between two rounds -/
def SplitAtRel (z : UInt8) (r : List UInt8) (b : Nat) (J : Nat → World → Prop) (wr : World) : Prop :=
  ∃ (k : Nat) (rest : List UInt8), (partsAt z r).drop k = partsAt z rest ∧ rest.length ≤ r.length ∧ Box wr b (str rest) 9 ∧ Box wr (b + 1) (str [z]) 9 ∧ Box wr (b + 2) (.int .i64 0) 3 ∧ J k wr

set_option maxHeartbeats 2000000 in
theorem split_iter_at (z : UInt8) (r : List UInt8) (hr : r.length ≤ 1024) (b : Nat) (w : World) (h1 : Box w b (str r) 9) (h2 : Box w (b + 1) (str [z]) 9) (h3 : Box w (b + 2) (.int .i64 0) 3) :
    Iter Tryz.prog 142 #[.pointer (some ⟨b + 1, 0, none⟩), .pointer (some ⟨b, 0, none⟩), .pointer (some ⟨b + 2, 0, none⟩)] (Boxes b) ((partsAt z r).map str) w := by
  intro n l J Jx W hs hJ hJx hY h0
  have hrel0 : SplitAtRel z r b J W := ⟨0, r, rfl, Nat.le_refl _, h1.same (hs.block _ (.inl rfl)), h2.same (hs.block _ (.inr (.inl rfl))), h3.same (hs.block _ (.inr (.inr rfl))), h0⟩
  have HR := Lib.hid hrel0
  have hc2 := (h2.same (hs.block _ (.inr (.inl rfl)))).cell
  have HJ := Lib.hid hJ
  have HJX := Lib.hid hJx
  have HY := Lib.hid hY
  clear h1 h2 h3 hs h0 hJ hJx hY hrel0
  refine callsIn_of_wp Tryz.func142 rfl trivial ?_ rfl
  simp only [Tryz.ntmps142, List.size_toArray, List.length_cons, List.length_nil, Nat.reduceAdd, Nat.reduceSub, Array.replicate_succ, Array.replicate_zero, List.push_toArray, List.append_toArray, List.nil_append, List.cons_append]
  have hfI : Fence.wide.fn 144 := trivial
  have hdep : Fence.wide.depth.isSome = false := rfl
  gi_wp2_with fail
  gi_loopw [7] (fun _ wr => SplitAtRel z r b J wr) (fun _ wr => strLen ((wr.cell? ⟨b, 0, none⟩).getD (.int .i64 0)))
  case atStart => exact HR.out
  case round =>
    obtain ⟨k, rest, hn, hl, b1, b2, b3, hj⟩ := hrel
    have c1 := b1.cell
    have c2 := b2.cell
    have c3 := b3.cell
    have f1 := b1.frozen
    have HN := Lib.hid hn
    have HJ0 := Lib.hid hj
    clear hn hj
    have hge := indexByte_ge rest z
    by_cases hi : indexByte rest z = -1
    · have hns := partsAt_none hi
      have hlast : (partsAt z r).drop k = [rest] := HN.out.trans hns
      have hx : ((partsAt z r).map str)[k]? = some (str rest) := names_at hlast
      have hlen : (partsAt z r).length = k + 1 := names_len hlast
      obtain ⟨fn, tmps, assign, body, hy, hR⟩ := HY.out k (str rest) wr hx HJ0.out
      have HR := Lib.hid hR
      have HL := Lib.hid hlen
      clear hns hlast hx hR hlen hge
      gi_wp2_with (gi_at_call 144; refine (callsIn_wide.2 (index_at z _ _)).mono ?_; rintro e w' ⟨rfl, rfl⟩)
      refine (HR.out).mono ?_
      rintro e W3 (⟨rfl, hJ3, hk3⟩ | ⟨rfl, hJx3⟩)
      · gi_wp2_with fail
        go_end0
        exact ⟨⟨_, rfl⟩, .inl (by rw [List.length_map, HL.out]; exact hJ3)⟩
      · gi_wp2_with fail
        go_end0
        exact ⟨⟨_, rfl⟩, .inr hJx3⟩
    · obtain ⟨i, hI⟩ : ∃ i : Nat, indexByte rest z = i := ⟨(indexByte rest z).toNat, by omega⟩
      have hns := partsAt_some hI
      have hil := indexAt_lt hI
      have hstep := HN.out.trans hns
      have hx : ((partsAt z r).map str)[k]? = some (.string ((⟨rest.toArray⟩ : ByteArray).extract 0 i)) := by rw [take_str]; exact names_at hstep
      obtain ⟨fn, tmps, assign, body, hy, hR⟩ := HY.out k _ wr hx HJ0.out
      have HR := Lib.hid hR
      have HS := Lib.hid (names_next hstep)
      clear hns hx hR hstep hge hi
      gi_wp2_with (gi_at_call 144; refine (callsIn_wide.2 (index_at z _ _)).mono ?_; rintro e w' ⟨rfl, rfl⟩)
      refine (HR.out).mono ?_
      rintro e W3 (⟨rfl, hJ3, hk3⟩ | ⟨rfl, hJx3⟩)
      · have b1' : Box W3 b (str rest) 9 := b1.same (hk3.block _ (.inl rfl))
        have b2' : Box W3 (b + 1) (str [z]) 9 := b2.same (hk3.block _ (.inr (.inl rfl)))
        have b3' : Box W3 (b + 2) (.int .i64 0) 3 := b3.same (hk3.block _ (.inr (.inr rfl)))
        have c1' := b1'.cell
        have c2' := b2'.cell
        have f1' := b1'.frozen
        have HJ3 := Lib.hid hJ3
        clear hJ3 hk3
        gi_wp2_with fail
        go_roundw
        case rel =>
          refine ⟨k + 1, rest.drop (i + 1), HS.out, ?_, ?_, b2'.other (by omega), b3'.other (by omega), HJ.out _ _ _ HJ3.out (Touch.setCell _ _ _ (.inl rfl))⟩
          · rw [List.length_drop]; omega
          · rw [drop_str]; exact b1'.set _
        case measure =>
          rw [(b1'.set _).cell, c1, drop_str]
          simp [strLen, ByteArray.size]
          omega
      · gi_wp2_with fail
        refine bodyPost_ret (results_none rfl _ _ _) rfl ?_
        exact ⟨⟨_, rfl⟩, .inr hJx3⟩

end Go.Proofs.YtcfgppjhgobboaaGreatDoor
