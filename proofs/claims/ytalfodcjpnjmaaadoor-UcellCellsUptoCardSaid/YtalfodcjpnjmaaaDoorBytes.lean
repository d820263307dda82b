/-
  What ucell's Bytes and the document's own Form and Bytes return, for every slice of runes; bytes.Equal at equal bytes.
-/
import Derived.Test.YtalfodcjpnjmaaaDoorRefKinds
import Derived.Test.YtalfodcjpnjmaaaDoorRunes
import Derived.Test.YtalfodcjpnjmaaaDoorLayB
import Derived.Lib.RuneBytes
namespace Go.Proofs.YtalfodcjpnjmaaaDoor
open Go.RowKit

theorem and63 (r : Int) (h0 : 0 ≤ r) (h1 : r ≤ 2147483647) : bits .and .i32 r 63 = r % 64 := by
  obtain ⟨n, rfl⟩ := Int.eq_ofNat_of_zero_le h0
  have hn : (BitVec.ofInt 32 (n : Int)).toNat = n := by rw [BitVec.ofInt_natCast, BitVec.toNat_ofNat]; exact Nat.mod_eq_of_lt (by omega)
  have h63 : (BitVec.ofInt 32 63).toNat = 63 := rfl
  show IntKind.i32.wrap ((BitVec.ofInt 32 (n : Int) &&& BitVec.ofInt 32 63).toNat : Int) = _
  have hm : n &&& 63 = n % 64 := Nat.and_two_pow_sub_one_eq_mod n 6
  rw [BitVec.toNat_and, hn, h63, hm, IntKind.wrap_i32]
  omega

/-- the bytes of runes -/
def encAll (l : List Int) : List UInt8 := l.flatMap Lib.encodeRune
theorem cells_enc (r : Int) : Lib.runeCells r = byteVals (Lib.encodeRune r) := (Lib.byteCells_encodeRune r).symm
theorem enc_len (r : Int) : 1 ≤ (Lib.encodeRune r).length ∧ (Lib.encodeRune r).length ≤ 4 := by
  have := Lib.runeCells_le r
  rw [Lib.runeCells_length] at this
  exact this
theorem encAll_len (l : List Int) : (encAll l).length ≤ 4 * l.length := by
  induction l with
  | nil => simp [encAll]
  | cons r l ih =>
    have := (enc_len r).2
    simp only [encAll, List.flatMap_cons, List.length_append, List.length_cons] at ih ⊢
    omega
theorem encAll_snoc (l : List Int) (r : Int) : encAll (l ++ [r]) = encAll l ++ Lib.encodeRune r := by simp [encAll]

set_option maxRecDepth 100000 in
set_option maxHeartbeats 4000000 in
theorem form_valid (r : Int) (w : World) (hv : vld r = true) :
    Calls Tryd.prog 41 #[.int .i32 r] w fun e w' => ∃ v, e = .returned v ∧ Holds1 w' v (Lib.runeCells r) ∧ Below w.heap.size w w' := by
  have CR := Lib.hid (refRune_any r w)
  rw [hv] at CR
  have hr : 0 ≤ r ∧ r < 55296 ∨ 57343 < r ∧ r ≤ 1114111 := by simpa [vld] using hv
  clear hv
  have a0 := and63 r (by omega) (by omega)
  have a1 := and63 (r / 64) (by omega) (by omega)
  have a2 := and63 (r / 4096) (by omega) (by omega)
  rcases (show (0 ≤ r ∧ r ≤ 127) ∨ (128 ≤ r ∧ r ≤ 2047) ∨ (2048 ≤ r ∧ r ≤ 65535) ∨ (65536 ≤ r ∧ r ≤ 1114111) by omega) with ⟨g0, g1⟩ | ⟨g0, g1⟩ | ⟨g0, g1⟩ | ⟨g0, g1⟩
  · have e : Lib.runeCells r = [.int .u8 r] := by rw [Lib.runeCells, Lib.encodeRuneZ_one g0 g1]; rfl
    rw [e]
    clear e a0 a1 a2
    go_enter Tryd.func41, Tryd.ntmps41
    go_wp2_with (go_at_call 36; refine (CR.out).mono ?_; rintro e w' ⟨rfl, rfl⟩)
    go_ret
    exact ⟨_, rfl, Holds1.built (xs := [.int .u8 r]), below_one _ _⟩
  · have e : Lib.runeCells r = [.int .u8 (192 + r / 64), .int .u8 (128 + r % 64)] := by rw [Lib.runeCells, Lib.encodeRuneZ_two g0 g1]; rfl
    rw [e]
    clear e
    go_enter Tryd.func41, Tryd.ntmps41
    go_wp2_with (go_at_call 36; refine (CR.out).mono ?_; rintro e w' ⟨rfl, rfl⟩)
    go_ret
    exact ⟨_, rfl, Holds1.built (xs := [.int .u8 (192 + r / 64), .int .u8 (128 + r % 64)]), below_one _ _⟩
  · have e : Lib.runeCells r = [.int .u8 (224 + r / 4096), .int .u8 (128 + r / 64 % 64), .int .u8 (128 + r % 64)] := by rw [Lib.runeCells, Lib.encodeRuneZ_three (by omega)]; rfl
    rw [e]
    clear e
    go_enter Tryd.func41, Tryd.ntmps41
    go_wp2_with (go_at_call 36; refine (CR.out).mono ?_; rintro e w' ⟨rfl, rfl⟩)
    go_ret
    exact ⟨_, rfl, Holds1.built (xs := [.int .u8 (224 + r / 4096), .int .u8 (128 + r / 64 % 64), .int .u8 (128 + r % 64)]), below_one _ _⟩
  · have e : Lib.runeCells r = [.int .u8 (240 + r / 262144), .int .u8 (128 + r / 4096 % 64), .int .u8 (128 + r / 64 % 64), .int .u8 (128 + r % 64)] := by rw [Lib.runeCells, Lib.encodeRuneZ_four g0 g1]; rfl
    rw [e]
    clear e
    go_enter Tryd.func41, Tryd.ntmps41
    go_wp2_with (go_at_call 36; refine (CR.out).mono ?_; rintro e w' ⟨rfl, rfl⟩)
    go_ret
    exact ⟨_, rfl, Holds1.built (xs := [.int .u8 (240 + r / 262144), .int .u8 (128 + r / 4096 % 64), .int .u8 (128 + r / 64 % 64), .int .u8 (128 + r % 64)]), below_one _ _⟩

theorem form_bad (r : Int) (w : World) (hv : vld r = false) :
    Calls Tryd.prog 41 #[.int .i32 r] w fun e w' => ∃ v, e = .returned v ∧ Holds1 w' v (Lib.runeCells r) ∧ Below w.heap.size w w' := by
  have CR := Lib.hid (refRune_any r w)
  rw [hv] at CR
  have hr : ¬ (0 ≤ r ∧ r < 55296 ∨ 57343 < r ∧ r ≤ 1114111) := by
    intro h
    have : vld r = true := by simp [vld]; omega
    rw [hv] at this
    cases this
  have e : Lib.runeCells r = [.int .u8 239, .int .u8 191, .int .u8 189] := by rw [Lib.runeCells, Lib.encodeRuneZ_bad (by omega)]; rfl
  rw [e]
  clear e hr hv
  go_enter Tryd.func41, Tryd.ntmps41
  go_wp2_with (go_at_call 36; refine (CR.out).mono ?_; rintro e w' ⟨rfl, rfl⟩)
  go_ret
  exact ⟨_, rfl, Holds1.built (xs := [.int .u8 239, .int .u8 191, .int .u8 189]), below_one _ _⟩

theorem form_any (r : Int) (w : World) :
    Calls Tryd.prog 41 #[.int .i32 r] w fun e w' => ∃ v, e = .returned v ∧ Holds1 w' v (byteVals (Lib.encodeRune r)) ∧ Below w.heap.size w w' := by
  rw [← cells_enc]
  cases hv : vld r
  · exact form_bad r w hv
  · exact form_valid r w hv

/-- a row of bytes of the call's own -/
def RowB (w : World) (base : Nat) (v : Value) (s : List UInt8) : Prop := w.ownsRow base 5 1 v s.length (byteVals s)

theorem appendRune_any (B : Nat) (v : Value) (s : List UInt8) (r : Int) (w : World) (hr0 : -2147483648 ≤ r) (hr1 : r ≤ 2147483647) (hown : RowB w B v s) (hlen : s.length ≤ 4000000000) (hB : B ≤ w.heap.size) :
    Calls Tryd.prog 40 #[v, .int .i32 r] w fun e w' => ∃ v', e = .returned v' ∧ RowB w' B v' (s ++ Lib.encodeRune r) ∧ Below B w w' := by
  refine (Any.utf8_AppendRune_plain lays242 (by kernel_rfl) B v s.length (byteVals s) r hr0 hr1 w hown (by omega) hB).mono ?_
  rintro e w' ⟨v', rfl, ho, o, hg⟩
  refine ⟨v', rfl, ?_, ((Below.refl B w).alloc hB o).grown hg (by simp; omega) fun k hk => (World.ownsRow.lt hown k hk).1⟩
  rw [Lib.runeCells_length, cells_enc] at ho
  unfold RowB
  have e1 : byteVals (s ++ Lib.encodeRune r) = byteVals s ++ byteVals (Lib.encodeRune r) := by simp [byteVals]
  rw [List.length_append, e1]
  exact ho

/-- the loops of both Bytes -/
def BytesRel (l : List Int) (w : World) (u i : Value) (wr : World) : Prop :=
  ∃ k : Nat, k ≤ l.length ∧ i = .int .i64 k ∧ RowB wr w.heap.size u (encAll (l.take k)) ∧ Below w.heap.size w wr

theorem bytes_any (l : List Int) (v : Value) (w : World) (hv : Holds1 w v (runeVals l)) (hl : l.length ≤ 400000000) (hwf : ∀ z ∈ l, -2147483648 ≤ z ∧ z ≤ 2147483647) :
    Calls Tryd.prog 14 #[v] w fun e w' => ∃ r, e = .returned r ∧ RowB w' w.heap.size r (encAll l) ∧ Below w.heap.size w w' := by
  obtain ⟨A, c, hvv, hc, h⟩ := hv
  have e : (runeVals l).length = l.length := by simp [runeVals]
  rw [e] at hvv h
  subst hvv
  have H := Lib.hid h
  have HWF := Lib.hid hwf
  clear h e hc hwf
  go_enter Tryd.func14, Tryd.ntmps14
  go_wp2
  go_loopw [3, 8] (fun u i wr => BytesRel l w u i wr) (fun _ i _ => l.length - (intOf i).toNat)
  case atStart => exact ⟨0, by omega, rfl, World.ownsRow_nil _ _ _ _, Below.refl _ _⟩
  case round =>
    obtain ⟨k, hk, rfl, ho, hb⟩ := hrel
    have HO := Lib.hid ho
    clear ho
    have hsz := hb.size
    by_cases hlt : k < l.length
    · obtain ⟨b, off, rfl, hblk, hcell⟩ := H.out (by omega)
      have hx : (runeVals l)[k]? = some (.int .i32 l[k]) := by simp [runeVals, hlt]
      have h1 : wr.cell? ⟨b, off + k, none⟩ = some (.int .i32 l[k]) := (hb.cell (p := ⟨b, off + k, none⟩) hblk).trans (hcell k _ hx)
      have HX := Lib.hid (show l.take (k + 1) = l.take k ++ [l[k]] from List.take_succ_eq_append_getElem hlt)
      have hlen := encAll_len (l.take k)
      rw [List.length_take] at hlen
      have hw := HWF.out l[k] (List.getElem_mem hlt)
      have hroom : (encAll (l.take k)).length ≤ 4000000000 := by omega
      clear hcell hx hlen
      generalize l[k] = x at *
      have HA := Lib.hid (appendRune_any w.heap.size u3 (encAll (l.take k)) x wr hw.1 hw.2 HO.out hroom hsz)
      clear hroom hw
      go_wp2_with (go_at_call 40; refine (HA.out).mono ?_; rintro e w1 ⟨v1, rfl, ho1, hb1⟩)
      go_roundw
      case rel => exact ⟨k + 1, by omega, by go_num, by rw [HX.out, encAll_snoc]; exact ho1, hb.trans hb1⟩
      case measure => simp [intOf]; omega
    · go_wp2
      go_ret
      have e : l.take k = l := List.take_of_length_le (by omega)
      exact ⟨_, rfl, by rw [← e]; exact HO.out, hb⟩

theorem info_u8 : (Tryd.prog.info? 5).map (fun i => (i.zero, i.size, i.bytes)) = some (some (.int .u8 0), 1, 1) := by kernel_rfl
theorem byteVals_one' (s : List UInt8) : ∀ u ∈ byteVals s, u.oneCell' = true := by
  intro u hu
  simp only [byteVals, List.mem_map] at hu
  obtain ⟨b, _, rfl⟩ := hu
  rfl

theorem refBytes_any (l : List Int) (v : Value) (w : World) (hv : Holds1 w v (runeVals l)) (hl : l.length ≤ 400000000) :
    Calls Tryd.prog 15 #[v] w fun e w' => ∃ r, e = .returned r ∧ RowB w' w.heap.size r (encAll l) ∧ Below w.heap.size w w' := by
  obtain ⟨i0, hi, hz0, hz1, hz2⟩ := info_parts info_u8
  obtain ⟨A, c, hvv, hc, h⟩ := hv
  have e : (runeVals l).length = l.length := by simp [runeVals]
  rw [e] at hvv h
  subst hvv
  have H := Lib.hid h
  clear h e hc
  go_enter Tryd.func15, Tryd.ntmps15
  go_wp2
  go_loopw [3, 4] (fun u i wr => BytesRel l w u i wr) (fun _ i _ => l.length - (intOf i).toNat)
  case atStart => exact ⟨0, by omega, rfl, World.ownsRow_nil _ _ _ _, Below.refl _ _⟩
  case round =>
    obtain ⟨k, hk, rfl, ho, hb⟩ := hrel
    have HO := Lib.hid ho
    clear ho
    have hsz := hb.size
    by_cases hlt : k < l.length
    · obtain ⟨b, off, rfl, hblk, hcell⟩ := H.out (by omega)
      have hx : (runeVals l)[k]? = some (.int .i32 l[k]) := by simp [runeVals, hlt]
      have h1 : wr.cell? ⟨b, off + k, none⟩ = some (.int .i32 l[k]) := (hb.cell (p := ⟨b, off + k, none⟩) hblk).trans (hcell k _ hx)
      have HX := Lib.hid (show l.take (k + 1) = l.take k ++ [l[k]] from List.take_succ_eq_append_getElem hlt)
      have hlen := encAll_len (l.take k)
      rw [List.length_take] at hlen
      have h4 := (enc_len l[k]).2
      have hroom : (encAll (l.take k)).length + (byteVals (Lib.encodeRune l[k])).length ≤ 4000000000 := by simp only [byteVals, List.length_map]; omega
      have HM := Lib.hid hroom
      clear hcell hx hlen hroom h4
      generalize l[k] = x at *
      go_wp2_with (first
        | (go_at_call 41; refine (form_any x _).mono ?_; rintro e w1 ⟨v1, rfl, hh1, hb1⟩)
        | (at_builtin; refine append_holds w1 rfl _ _ 22 rfl w.heap.size 5 i0 (.int .u8 0) 1 Tryd.underlying22 hi hz0 hz1 hz2 rfl _ (encAll (l.take k)).length (byteVals (encAll (l.take k))) rfl (by exact own_below HO.out hb1) _ (byteVals (Lib.encodeRune x)) (byteVals_one' _) rfl (by exact hh1) (by have := HM.out; unfold maxLen; omega) (by have := HM.out; omega) (Nat.le_trans hsz hb1.size) ?_; intro v' w2 hown' hb2))
      go_roundw
      case rel =>
        refine ⟨k + 1, by omega, by go_num, ?_, hb.trans ((hb1.mono hsz).trans hb2)⟩
        rw [HX.out, encAll_snoc]
        unfold RowB
        have e1 : byteVals (encAll (l.take k) ++ Lib.encodeRune x) = byteVals (encAll (l.take k)) ++ byteVals (Lib.encodeRune x) := by simp [byteVals]
        rw [List.length_append, e1]
        have e2 : (byteVals (Lib.encodeRune x)).length = (Lib.encodeRune x).length := by simp [byteVals]
        rw [e2] at hown'
        exact hown'
      case measure => simp [intOf]; omega
    · go_wp2
      go_ret
      have e : l.take k = l := List.take_of_length_le (by omega)
      exact ⟨_, rfl, by rw [← e]; exact HO.out, hb⟩

theorem bytesIn_of {w : World} {A : Option Addr} {c : Nat} {s : List UInt8} (hv : Holds1 w (.slice A s.length c) (byteVals s)) : Lib.BytesIn w A s.length (s.map fun b => (b.toNat : Int)) := fun hn => by
  obtain ⟨A', c', e, hc, h⟩ := hv
  injection e with e1 e2 e3
  subst e1
  obtain ⟨b, off, rfl, _, hcell⟩ := h (by simpa [byteVals] using hn)
  exact ⟨b, off, rfl, fun i hi => hcell i _ (by simp [byteVals, hi])⟩
theorem equal_bytes (s : List UInt8) (v v' : Value) (w : World) (hv : Holds1 w v (byteVals s)) (hv' : Holds1 w v' (byteVals s)) :
    Calls Tryd.prog 13 #[v, v'] w fun e w' => e = .returned (.bool true) ∧ w = w' := by
  obtain ⟨A, c, e, _⟩ := id hv
  obtain ⟨A', c', e', _⟩ := id hv'
  have hl : (byteVals s).length = s.length := by simp [byteVals]
  rw [hl] at e e'
  subst e e'
  refine (Any.bytes_Equal_all laysnb115 A A' s.length c s.length c' _ _ w (by simp) (by simp) (bytesIn_of hv) (bytesIn_of hv')).mono ?_
  rintro e w' ⟨rfl, rfl⟩
  exact ⟨ret_bool (by simp), rfl⟩

end Go.Proofs.YtalfodcjpnjmaaaDoor
