/-
  The functions of package vtparse that collect: an intermediate, a byte of text, a parameter.
-/
import Derived.Test.YtjoiagaadofndaaDoorVpPure
namespace Go.Proofs.YtjoiagaadofndaaDoor
open Go.RowKit Go.Shelf Go.Lib
attribute [local go_sem] Oper.semAt_some

def CollPost (w : World) (g : Nat) (S : PS) (e : Ending) (w' : World) : Prop := e = .returned (.tuple #[]) ∧ ParAt w' g S ∧ Touch (Only g) w w'
theorem touch_two (w : World) (g k l : Nat) (u v : Value) : Touch (Only g) w ((w.setCell ⟨g, k, none⟩ u).setCell ⟨g, l, none⟩ v) := (only_set w g k u).trans (only_set _ g l v)
theorem RawAt.set2 {w : World} {g : Nat} {R R' : Raw} (h : RawAt w g R) {k l : Nat} {u v : Value} (e : (R.row.set k u).set l v = R'.row) : RawAt ((w.setCell ⟨g, k, none⟩ u).setCell ⟨g, l, none⟩ v) g R' := by
  unfold RawAt
  have h1 := Go.heap_setCell_same w g k _ _ u h
  rw [Go.heap_setCell_same _ g l _ _ v h1, List.setIfInBounds_toArray, List.setIfInBounds_toArray, e]

set_option maxRecDepth 1000000 in
set_option maxHeartbeats 1000000 in
theorem addInter_any (w : World) (g : Nat) (S : PS) (b : UInt8) (h : ParAt w g S) : Calls Tryd.prog 87 #[.pointer (some ⟨g, 7, none⟩), .int .u8 b.toNat] w (CollPost w g (addInterP S b)) := by
  obtain ⟨R, ok, hR, rfl⟩ := h
  have c29 := (hR.cells ok).c29
  have f27 := hR.frozen 27
  have f28 := hR.frozen 28
  have f29 := hR.frozen 29
  have c27 : w.cell? ⟨g, 27, none⟩ = some (.int .u8 R.i0.toNat) := hR.cell (row_mid ok 2 (by omega))
  have c28 : w.cell? ⟨g, 28, none⟩ = some (.int .u8 R.i1.toNat) := hR.cell (row_mid ok 3 (by omega))
  have hn := ok.ni2
  have H := Lib.hid hR
  have OK := Lib.hid ok
  have hc : R.ni = 0 ∨ R.ni = 1 ∨ R.ni = 2 := by omega
  clear hR ok hn
  have hi0 : ∀ W, (Instr.indexAt 59 (.pointer (some ⟨g, 27, none⟩)) (.int .i64 0)).run Tryd.prog W = .ok (.pointer (some ⟨g, 27, none⟩)) W := fun W => by
    simp [Instr.indexAt, Instr.sureAddr, asIntOf, run_underlying Tryd.underlying59, Addr.add, go_sem]
  have hi1 : ∀ W, (Instr.indexAt 59 (.pointer (some ⟨g, 27, none⟩)) (.int .i64 1)).run Tryd.prog W = .ok (.pointer (some ⟨g, 28, none⟩)) W := fun W => by
    simp [Instr.indexAt, Instr.sureAddr, asIntOf, run_underlying Tryd.underlying59, Addr.add, go_sem]
  rcases hc with hc | hc | hc
  · have HP := Lib.hid (inter_ok OK.out (by omega) b)
    have HS := Lib.hid (H.out.set2 (inter_set OK.out b hc (by omega)))
    rw [hc] at c29
    clear hc
    go_enter Tryd.func87, Tryd.ntmps87
    go_wp2
    go_region
    go_wp2
    go_end0
    exact ⟨rfl, ⟨R.inter b, HP.out.1, HS.out, HP.out.2⟩, (touch_two _ _ _ _ _ _).drew⟩
  · have HP := Lib.hid (inter_ok OK.out (by omega) b)
    have HS := Lib.hid (H.out.set2 (inter_set OK.out b hc (by omega)))
    rw [hc] at c29
    clear hc
    go_enter Tryd.func87, Tryd.ntmps87
    go_wp2
    go_region
    go_wp2
    go_end0
    exact ⟨rfl, ⟨R.inter b, HP.out.1, HS.out, HP.out.2⟩, (touch_two _ _ _ _ _ _).drew⟩
  · have e : addInterP (PS.of R) b = PS.of R := inter_full OK.out (by omega) b
    rw [e]
    rw [hc] at c29
    clear hc e
    go_enter Tryd.func87, Tryd.ntmps87
    go_wp2
    go_end0
    exact ⟨rfl, ⟨R, OK.out, H.out, rfl⟩, Touch.refl _ _⟩

theorem index_T (g nt : Nat) (h : nt < 1024) (W : World) : (Instr.indexAt 60 (.pointer (some ⟨g, 30, none⟩)) (.int .i64 (nt : Int))).run Tryd.prog W = .ok (.pointer (some ⟨g, 30 + nt, none⟩)) W := by
  simp [Instr.indexAt, Instr.sureAddr, asIntOf, run_underlying Tryd.underlying60, add_off]
  omega
theorem index_L (g k : Nat) (h : k < 16) (W : World) : (Instr.indexAt 56 (.pointer (some ⟨g, 9, none⟩)) (.int .i64 (k : Int))).run Tryd.prog W = .ok (.pointer (some ⟨g, 9 + k, none⟩)) W := by
  simp [Instr.indexAt, Instr.sureAddr, asIntOf, run_underlying Tryd.underlying56, add_off]
  omega

set_option maxRecDepth 1000000 in
set_option maxHeartbeats 1000000 in
theorem addText_any (w : World) (g : Nat) (S : PS) (b : UInt8) (h : ParAt w g S) : Calls Tryd.prog 89 #[.pointer (some ⟨g, 7, none⟩), .int .u8 b.toNat] w (CollPost w g (addTextP S b)) := by
  obtain ⟨R, ok, hR, rfl⟩ := h
  have c54 := (hR.cells ok).c1054
  have f54 := hR.frozen 1054
  have H := Lib.hid hR
  have OK := Lib.hid ok
  by_cases hl : R.nt < 1024
  · have hT : R.nt < R.T.length := by rw [ok.T1024]; exact hl
    have ct : w.cell? ⟨g, 30 + R.nt, none⟩ = some (.int .u8 (R.T[R.nt]).toNat) := hR.cell (by rw [row_T ok R.nt hl, byteVals, List.getElem?_map, List.getElem?_eq_getElem hT]; rfl)
    have ft := hR.frozen (30 + R.nt)
    have hi := index_T g R.nt hl
    have HP := Lib.hid (txt_ok ok hl b)
    have HS := Lib.hid (hR.set2 (txt_set ok hl b))
    have hlt : ((R.nt : Int) < 1024) = True := by simp; omega
    have hw : wrap64 ((R.nt : Int) + 1) = ((R.nt + 1 : Nat) : Int) := by unfold wrap64; omega
    have hne : (30 + R.nt = 1054) = False := by simp; omega
    have c54' : (w.setCell ⟨g, 30 + R.nt, none⟩ (.int .u8 b.toNat)).cell? ⟨g, 1054, none⟩ = some (.int .i64 R.nt) := by rw [World.cell?_setCell_other _ _ _ _ (by simp; try omega)]; exact c54
    have f54' : (w.setCell ⟨g, 30 + R.nt, none⟩ (.int .u8 b.toNat)).frozen? ⟨g, 1054, none⟩ = false := by rw [World.frozen?_setCell]; exact f54
    generalize (R.T[R.nt]).toNat = old at ct
    clear hR ok hl hT
    go_enter Tryd.func89, Tryd.ntmps89
    go_wp2
    go_region
    go_wp2
    go_end0
    exact ⟨rfl, ⟨R.txt b, HP.out.1, HS.out, HP.out.2⟩, (touch_two _ _ _ _ _ _).drew⟩
  · have e : addTextP (PS.of R) b = PS.of R := txt_full ok hl b
    have hlt : ((R.nt : Int) < 1024) = False := by simp; omega
    rw [e]
    clear hR ok hl e
    go_enter Tryd.func89, Tryd.ntmps89
    go_wp2
    go_end0
    exact ⟨rfl, ⟨R, OK.out, H.out, rfl⟩, Touch.refl _ _⟩

set_option maxRecDepth 1000000 in
set_option maxHeartbeats 1000000 in
theorem begin_any (w : World) (g : Nat) (S : PS) (h : ParAt w g S) : Calls Tryd.prog 100 #[.pointer (some ⟨g, 9, none⟩)] w (CollPost w g (beginP S)) := by
  obtain ⟨R, ok, hR, rfl⟩ := h
  have c25 := (hR.cells ok).c25
  have f25 := hR.frozen 25
  have c26 := (hR.cells ok).c26
  have f26 := hR.frozen 26
  have H := Lib.hid hR
  have OK := Lib.hid ok
  by_cases hl : R.c = 16
  · have HP := Lib.hid (full_ok ok hl)
    have HS := Lib.hid (hR.set (full_set ok))
    rw [hl] at c25
    clear hR ok hl
    go_enter Tryd.func100, Tryd.ntmps100
    go_wp2
    go_end0
    exact ⟨rfl, ⟨_, HP.out.1, HS.out, HP.out.2⟩, only_set _ _ _ _⟩
  · have h16 := ok.c16
    have hl' : R.c < 16 := by omega
    have hT : R.c < R.L.length := by rw [ok.L16]; exact hl'
    have ct : w.cell? ⟨g, 9 + R.c, none⟩ = some (.int .i64 R.L[R.c]) := hR.cell (by rw [row_L ok R.c hl', intVals, List.getElem?_map, List.getElem?_eq_getElem hT]; rfl)
    have ft := hR.frozen (9 + R.c)
    have hi := index_L g R.c hl'
    have HP := Lib.hid (beg_ok ok hl')
    have HS := Lib.hid (hR.set2 (beg_set ok hl'))
    have hlt : ((R.c : Int) == 16) = false := by simp; omega
    have hw : wrap64 ((R.c : Int) + 1) = ((R.c + 1 : Nat) : Int) := by unfold wrap64; omega
    have c25' : (w.setCell ⟨g, 9 + R.c, none⟩ (.int .i64 (-1))).cell? ⟨g, 25, none⟩ = some (.int .i64 R.c) := by rw [World.cell?_setCell_other _ _ _ _ (by simp; try omega)]; exact c25
    have f25' : (w.setCell ⟨g, 9 + R.c, none⟩ (.int .i64 (-1))).frozen? ⟨g, 25, none⟩ = false := by rw [World.frozen?_setCell]; exact f25
    generalize R.L[R.c] = old at ct
    clear hR ok hl hl' h16 hT
    go_enter Tryd.func100, Tryd.ntmps100
    go_wp2
    go_region
    go_wp2
    go_end0
    exact ⟨rfl, ⟨R.beg, HP.out.1, HS.out, HP.out.2⟩, (touch_two _ _ _ _ _ _).drew⟩

theorem begun_len (S : PS) : (begunP S).ps.length ≠ 0 := by
  unfold begunP
  split
  · unfold beginP
    split
    · next h1 h2 => omega
    · simp
  · assumption
theorem ParAt.count {w : World} {g : Nat} {S : PS} (h : ParAt w g S) : w.cell? ⟨g, 25, none⟩ = some (.int .i64 S.ps.length) := by
  obtain ⟨R, ok, hR, rfl⟩ := h
  have e : (PS.of R).ps.length = R.c := by
    show (R.L.take R.c).length = R.c
    rw [List.length_take, ok.L16]
    have := ok.c16
    omega
  rw [e]
  exact (hR.cells ok).c25
theorem CollPost.trans {w w1 : World} {g : Nat} {S : PS} {e : Ending} {w2 : World} (ht : Touch (Only g) w w1) (h : CollPost w1 g S e w2) : CollPost w g S e w2 := ⟨h.1, h.2.1, ht.trans h.2.2⟩

set_option maxRecDepth 1000000 in
set_option maxHeartbeats 1000000 in
/-- a digit, where a parameter has begun -/
theorem digit_walk (w : World) (g : Nat) (S : PS) (b : UInt8) (h : ParAt w g S) (hne : S.ps.length ≠ 0) (h48 : 48 ≤ b.toNat) (h57 : b.toNat ≤ 57) : Calls Tryd.prog 86 #[.pointer (some ⟨g, 9, none⟩), .int .u8 b.toNat] w (CollPost w g (digitP S b)) := by
  have c25 := h.count
  have hz : ((S.ps.length : Int) == 0) = false := beq_eq_false_iff_ne.2 (by omega)
  obtain ⟨R, ok, hR, rfl⟩ := h
  have hlen : (PS.of R).ps.length = R.c := by
    show (R.L.take R.c).length = R.c
    rw [List.length_take, ok.L16]
    have := ok.c16
    omega
  rw [hlen] at c25 hz hne
  obtain ⟨k, hk⟩ : ∃ k, R.c = k + 1 := ⟨R.c - 1, by omega⟩
  have h16 := ok.c16
  have hT : k < R.L.length := by rw [ok.L16]; omega
  have c26 := (hR.cells ok).c26
  have H := Lib.hid hR
  have OK := Lib.hid ok
  have hb59 : ((b.toNat : Int) == 59) = false := by simp; omega
  by_cases hbe : R.be = true
  · have e : digitP (PS.of R) b = PS.of R := by unfold digitP; rw [if_pos (show (PS.of R).beyond = true from hbe)]
    rw [e]
    rw [hbe] at c26
    rw [hk] at c25 hz
    clear hR ok hbe e hne hlen hT h48 h57 hk
    go_enter Tryd.func86, Tryd.ntmps86
    go_wp2
    go_end0
    exact ⟨rfl, ⟨R, OK.out, H.out, rfl⟩, Touch.refl _ _⟩
  · have hbe' : R.be = false := by simpa using hbe
    have hx : R.L[k]? = some R.L[k] := List.getElem?_eq_getElem hT
    have hdig := dig_ok ok hk hbe' b h48 R.L[k] hx
    have ct : w.cell? ⟨g, 9 + k, none⟩ = some (.int .i64 R.L[k]) := hR.cell (by rw [row_L ok k (by omega), intVals, List.getElem?_map, hx]; rfl)
    have ft := hR.frozen (9 + k)
    have hi := index_L g k (by omega)
    have HS := Lib.hid (hR.set (dig_set ok k (digN R.L[k] b) (by omega)))
    have hw : wrap64 (((k + 1 : Nat) : Int) - 1) = (k : Int) := by unfold wrap64; omega
    have wk : wrap64 (k : Int) = (k : Int) := by unfold wrap64; omega
    have hx1 := hdig.2.2.1
    have hx2 := hdig.2.2.2
    have HP := Lib.hid (And.intro hdig.1 hdig.2.1)
    rw [hbe'] at c26
    rw [hk] at c25 hz
    generalize R.L[k] = x at *
    have wb : IntKind.u8.wrap ((b.toNat : Int) - 48) = (b.toNat : Int) - 48 := by rw [IntKind.wrap_u8]; omega
    have wb2 : wrap64 ((b.toNat : Int) - 48) = (b.toNat : Int) - 48 := by unfold wrap64; omega
    have wm : wrap64 (max x 0 * 10) = max x 0 * 10 := by unfold wrap64; omega
    have ws : wrap64 (max x 0 * 10 + ((b.toNat : Int) - 48)) = max x 0 * 10 + ((b.toNat : Int) - 48) := by unfold wrap64; omega
    unfold digN at HS
    clear hR ok hbe hbe' hne hlen hT h48 h57 hk hdig hx hx1 hx2 h16
    go_enter Tryd.func86, Tryd.ntmps86
    go_wp2
    go_region
    go_wp2
    go_end0
    exact ⟨rfl, ⟨_, HP.out.1, HS.out, HP.out.2⟩, (only_set _ _ _ _).drew⟩

theorem first_facts {w : World} {g : Nat} {S : PS} (h : ParAt w g (beginP S)) (h0 : S.ps.length = 0) : ∃ R, RawOk R ∧ RawAt w g R ∧ PS.of R = beginP S ∧ R.c = 1 ∧ R.L[0]? = some (-1) := by
  obtain ⟨R, ok, hR, hS⟩ := h
  have hp : (beginP S).ps = [-1] := by
    unfold beginP
    rw [if_neg (by omega)]
    simp [List.eq_nil_of_length_eq_zero h0]
  have hp2 : R.L.take R.c = [-1] := by rw [← hp, ← hS]; rfl
  have hc : R.c = 1 := by
    have := congrArg List.length hp2
    rw [List.length_take, ok.L16] at this
    have := ok.c16
    simp at *
    omega
  refine ⟨R, ok, hR, hS, hc, ?_⟩
  rw [hc] at hp2
  have : (R.L.take 1)[0]? = some (-1) := by rw [hp2]; rfl
  rw [List.getElem?_take] at this
  simpa using this

set_option maxRecDepth 1000000 in
set_option maxHeartbeats 1000000 in
/-- a digit, where no parameter has begun -/
theorem digit_first (w : World) (g : Nat) (S : PS) (b : UInt8) (h : ParAt w g S) (h0 : S.ps.length = 0) (h48 : 48 ≤ b.toNat) (h57 : b.toNat ≤ 57) : Calls Tryd.prog 86 #[.pointer (some ⟨g, 9, none⟩), .int .u8 b.toNat] w (CollPost w g (digitP (beginP S) b)) := by
  have c25 := h.count
  rw [h0] at c25
  have CB := Lib.hid (begin_any w g S h)
  have hb59 : ((b.toNat : Int) == 59) = false := by simp; omega
  have HS0 := Lib.hid h0
  have HH := Lib.hid (And.intro h48 h57)
  clear h h0 h48 h57
  go_enter Tryd.func86, Tryd.ntmps86
  go_upto_region 2 with (go_at_call 100; refine (CB.out).mono ?_; rintro e w1 ⟨rfl, hp1, ht1⟩; have HP1 := Lib.hid hp1; have HT1 := Lib.hid ht1; clear hp1 ht1)
  obtain ⟨R, ok, hR, hS, hk, hx⟩ := first_facts HP1.out HS0.out
  obtain ⟨h48, h57⟩ := HH.out
  have c26 := (hR.cells ok).c26
  have c25' := (hR.cells ok).c25
  have H := Lib.hid hR
  have OK := Lib.hid ok
  have HQ := Lib.hid hS
  rw [hk] at c25'
  by_cases hbe : R.be = true
  · have e : digitP (PS.of R) b = PS.of R := by unfold digitP; rw [if_pos (show (PS.of R).beyond = true from hbe)]
    have HE := Lib.hid (show PS.of R = digitP (beginP S) b by rw [← hS]; exact e.symm)
    rw [hbe] at c26
    clear hR ok hbe e h48 h57 hk hx hS
    go_wp2
    go_end0
    exact ⟨rfl, ⟨R, OK.out, H.out, HE.out⟩, HT1.out⟩
  · have hbe' : R.be = false := by simpa using hbe
    have hdig := dig_ok ok hk hbe' b h48 (-1) hx
    have ct : w1.cell? ⟨g, 9, none⟩ = some (.int .i64 (-1)) := hR.cell (k := 9 + 0) (by rw [row_L ok 0 (by omega), intVals, List.getElem?_map, hx]; rfl)
    have ft := hR.frozen 9
    have hi := index_L g 0 (by omega) 
    have HS := Lib.hid (hR.set (dig_set ok 0 (digN (-1) b) (by omega)))
    have HP := Lib.hid (And.intro hdig.1 (show PS.of (R.dig 0 (digN (-1) b)) = digitP (beginP S) b by rw [← hS]; exact hdig.2.1))
    rw [hbe'] at c26
    have wb : IntKind.u8.wrap ((b.toNat : Int) - 48) = (b.toNat : Int) - 48 := by rw [IntKind.wrap_u8]; omega
    have wb2 : wrap64 ((b.toNat : Int) - 48) = (b.toNat : Int) - 48 := by unfold wrap64; omega
    have ws : wrap64 (max (-1) 0 * 10 + ((b.toNat : Int) - 48)) = max (-1) 0 * 10 + ((b.toNat : Int) - 48) := by unfold wrap64; omega
    unfold digN at HS
    clear hR ok hbe hbe' h48 h57 hk hdig hx hS
    go_wp2
    go_region
    go_wp2
    go_end0
    exact ⟨rfl, ⟨_, HP.out.1, HS.out, HP.out.2⟩, HT1.out.trans (only_set _ _ _ _).drew⟩

set_option maxRecDepth 1000000 in
set_option maxHeartbeats 1000000 in
theorem put_any' (w : World) (g : Nat) (S : PS) (b : UInt8) (h : ParAt w g S) (hb : classP b = 2) : Calls Tryd.prog 86 #[.pointer (some ⟨g, 9, none⟩), .int .u8 b.toNat] w (CollPost w g (putParP S b)) := by
  have hb2 : (48 ≤ b.toNat ∧ b.toNat ≤ 57) ∨ b.toNat = 59 := by
    rw [classP_nat] at hb
    repeat' split at hb
    all_goals omega
  have e59 : (b = 59) ↔ b.toNat = 59 := u8_eq b 59 (by omega)
  rcases hb2 with ⟨h48, h57⟩ | h59
  · have e : putParP S b = digitP (begunP S) b := by unfold putParP; rw [if_neg (by rw [e59]; omega)]
    rw [e]
    by_cases h0 : S.ps.length = 0
    · have e2 : begunP S = beginP S := by unfold begunP; rw [if_pos h0]
      rw [e2]
      exact digit_first w g S b h h0 h48 h57
    · have e2 : begunP S = S := by unfold begunP; rw [if_neg h0]
      rw [e2]
      exact digit_walk w g S b h h0 h48 h57
  · have e : putParP S b = beginP (begunP S) := by unfold putParP; rw [if_pos (e59.2 h59)]
    rw [e]
    by_cases h0 : S.ps.length = 0
    · have e2 : begunP S = beginP S := by unfold begunP; rw [if_pos h0]
      rw [e2]
      have c25 := h.count
      rw [h0] at c25
      rw [h59]
      have CB := Lib.hid (begin_any w g S h)
      have CB2 := Lib.hid fun W (hW : ParAt W g (beginP S)) => begin_any W g (beginP S) hW
      have tok1 : True := trivial
      clear h h0 e e2 h59 e59 hb
      go_enter Tryd.func86, Tryd.ntmps86
      go_wp2_with (first
        | (go_at_call 100; have tk := tok1; clear tk; refine (CB.out).mono ?_; rintro e w1 ⟨rfl, hp1, ht1⟩; have HP1 := Lib.hid hp1; have HT1 := Lib.hid ht1; clear hp1 ht1 tok1)
        | (go_at_call 100; refine (CB2.out _ HP1.out).mono ?_; rintro e w2 ⟨rfl, hp2, ht2⟩; have HP2 := Lib.hid hp2; have HT2 := Lib.hid ht2; clear hp2 ht2))
      go_end0
      exact ⟨rfl, HP2.out, HT1.out.trans HT2.out⟩
    · have e2 : begunP S = S := by unfold begunP; rw [if_neg h0]
      rw [e2]
      have c25 := h.count
      have hz : ((S.ps.length : Int) == 0) = false := beq_eq_false_iff_ne.2 (by omega)
      rw [h59]
      have CB := Lib.hid (begin_any w g S h)
      clear h h0 e e2 h59 e59 hb
      generalize S.ps.length = n at c25 hz
      go_enter Tryd.func86, Tryd.ntmps86
      go_wp2_with (go_at_call 100; refine (CB.out).mono ?_; rintro e w1 ⟨rfl, hp1, ht1⟩; have HP1 := Lib.hid hp1; have HT1 := Lib.hid ht1; clear hp1 ht1)
      go_end0
      exact ⟨rfl, HP1.out, HT1.out⟩
end Go.Proofs.YtjoiagaadofndaaDoor
