/-
  The document's parser: runes are told; a byte of a text; a control; what an ESC begins.
  The document's parser: what an ESC begins; what ends a sequence.
  The document's parser: a byte of a sequence; a graphic byte.
-/
import Derived.Test.YtjoiagaadofndaaDoorVrIn
import Derived.Deep.RegionHeld3
namespace Go.Proofs.YtjoiagaadofndaaDoor
section
open Go.RowKit Go.Shelf Go.Lib
attribute [local go_sem] Oper.semAt_some

theorem rPrints_snoc (l : List Int) (r : Int) : rPrintsP (l ++ [r]) = rPrintsP l ++ (if decide (128 ≤ r) && decide (r ≤ 159) then [] else [printA r]) := by
  unfold rPrintsP
  rw [List.filter_append, List.map_append]
  cases h : (decide (128 ≤ r) && decide (r ≤ 159)) <;> simp only [List.filter_cons, List.filter_nil, h] <;> rfl
theorem rPrints_len (l : List Int) : (rPrintsP l).length ≤ l.length := by
  unfold rPrintsP
  rw [List.length_map]
  exact List.length_filter_le _ _
/-- between two runes -/
def RPrintsI (w : World) (q Bo Br : Nat) (O : Nat → Prop) (S : PS) (al : List ActD) (rs : List Int) (rv : Value) (i : Value) (wr : World) : Prop :=
  ∃ k : Nat, k ≤ rs.length ∧ i = .int .i64 k ∧ RpAt wr q Bo O S (al ++ rPrintsP (rs.take k)) ∧ wr.ownsRow Br 21 1 rv rs.length (runeVals rs) ∧ Touch (Mine q O) w wr

set_option maxRecDepth 1000000 in
set_option maxHeartbeats 2000000 in
theorem rprints_any (w : World) (q Bo Br : Nat) (O : Nat → Prop) (S : PS) (al : List ActD) (rs : List Int) (rv : Value) (h : RpAt w q Bo O S al) (hr : w.ownsRow Br 21 1 rv rs.length (runeVals rs)) (hlen : al.length + rs.length ≤ 900000000) :
    Calls Tryd.prog 31 #[.pointer (some ⟨q, 0, none⟩), rv] w (RpPost w q Bo O S (al ++ rPrintsP rs)) := by
  obtain ⟨A, c, hrv, _⟩ := own_form hr
  subst hrv
  have HI := Lib.hid (show RPrintsI w q Bo Br O S al rs (.slice A rs.length c) (.int .i64 0) w from ⟨0, Nat.zero_le _, rfl, by simpa [rPrintsP] using h, hr, Touch.refl _ _⟩)
  have HL := Lib.hid hlen
  clear h hr hlen
  generalize hn : rs.length = n at *
  have HN := Lib.hid hn
  clear hn
  go_enter Tryd.func31, Tryd.ntmps31
  go_wp2
  go_loopw [4] (fun i wr => RPrintsI w q Bo Br O S al rs (.slice A n c) i wr) (fun i _ => n - (RowKit.intOf i).toNat)
  case atStart => exact HI.out
  case round =>
    obtain ⟨k, hk, rfl, hp, hr, ht⟩ := hrel
    rw [HN.out] at hk hr
    by_cases hlt : k < n
    · obtain ⟨r, hx⟩ : ∃ r, rs[k]? = some r := ⟨_, List.getElem?_eq_getElem (by rw [HN.out]; exact hlt)⟩
      obtain ⟨A', c', e0, _, hc⟩ := Holds1.of_own hr
      injection e0 with e1 e2 e3
      subst e1 e3
      clear e2
      obtain ⟨bk, off, rfl, _, hc⟩ := hc (by rw [show (runeVals rs).length = n by simp [runeVals]; exact HN.out]; omega)
      have hl0 := hc k (.int .i32 r) (by simp [runeVals, hx])
      have htk : rs.take (k + 1) = rs.take k ++ [r] := by rw [List.take_add_one, hx]; rfl
      have HS : Hid (al ++ rPrintsP (rs.take (k + 1)) = (al ++ rPrintsP (rs.take k)) ++ (if decide (128 ≤ r) && decide (r ≤ 159) then [] else [printA r])) := Lib.hid (by rw [htk, rPrints_snoc, List.append_assoc])
      have HLen : Hid ((al ++ rPrintsP (rs.take k)).length ≤ 900000000) := Lib.hid (by have := rPrints_len (rs.take k); have h2 := HL.out; rw [List.length_take] at this; rw [List.length_append]; omega)
      have i1 : (0 : Int) ≤ (k : Int) := by omega
      have i2 : ((k : Int) < (n : Int)) = True := by simp; exact hlt
      have hwk : wrap64 ((k : Int) + 1) = (k : Int) + 1 := by have := HL.out; unfold wrap64; omega
      have HLT := Lib.hid hlt
      have HR := Lib.hid hr
      have HP := Lib.hid hp
      have HT := Lib.hid ht
      clear hr hp ht hc hlt hk htk hx
      generalize hq : rPrintsP (rs.take k) = z at *
      clear hq
      by_cases hcr : (decide (128 ≤ r) && decide (r ≤ 159)) = true
      · have HS2 : Hid (al ++ rPrintsP (rs.take (k + 1)) = al ++ z) := Lib.hid (by rw [HS.out, hcr]; simp)
        have hc1 : (128 ≤ r) = True := by simp at hcr; simp; omega
        have hc2 : (r ≤ 159) = True := by simp at hcr; simp; omega
        clear hcr HS
        go_wp2
        go_roundw
        case rel => exact ⟨k + 1, by have := HLT.out; have := HN.out; omega, by go_num, by rw [HS2.out]; exact HP.out, by rw [HN.out]; exact HR.out, HT.out⟩
        case measure => rw [hwk]; clear hwk; have := HLT.out; simp [RowKit.intOf]; omega
      · have hcf : (decide (128 ≤ r) && decide (r ≤ 159)) = false := by simpa using hcr
        have HS2 : Hid (al ++ rPrintsP (rs.take (k + 1)) = (al ++ z) ++ [printA r]) := Lib.hid (by rw [HS.out, hcf]; simp)
        obtain ⟨hv, pv, ov, xs, e1, h⟩ := HP.out
        have HR' := fun w' (ht : Touch (fun j => j = q ∨ ov.ownBlock = some j) wr w') => h.runes HR.out ht
        have HE1 := Lib.hid e1
        have CT := Lib.hid (tell_any wr q Bo O S hv pv ov xs h (printA r) (.slice none 0 0) (World.ownsRow_nil _ _ _ _) (fun k hk => by cases hk) (by rw [← List.length_map (f := Prod.fst), e1]; exact HLen.out))
        have HH := Lib.hid h
        have HRR := Lib.hid HR'
        clear h e1 HR'
        rcases (show (¬ 128 ≤ r) ∨ (128 ≤ r ∧ ¬ r ≤ 159) by simp at hcr; omega) with hcc | hcc
        · have hc1 : (128 ≤ r) = False := by simp; omega
          clear hcr hcf HS hcc
          go_wp2_with (go_at_call 46; refine (CT.out).mono ?_; rintro e w' ⟨rfl, ⟨ov', hp'⟩, ht'⟩; have HP2 := Lib.hid hp'; have HR2 := Lib.hid (HRR.out w' ht'); have HT2 := Lib.hid (HT.out.trans (HH.out.mine ht')); clear hp' ht')
          go_roundw
          case rel => exact ⟨k + 1, by have := HLT.out; have := HN.out; omega, by go_num, by rw [HS2.out]; exact ⟨hv, pv, ov', _, by rw [List.map_append, HE1.out]; rfl, HP2.out⟩, by rw [HN.out]; exact HR2.out, HT2.out⟩
          case measure => rw [hwk]; clear hwk; have := HLT.out; simp [RowKit.intOf]; omega
        · have hc1 : (128 ≤ r) = True := by simp; omega
          have hc2 : (r ≤ 159) = False := by simp; omega
          clear hcr hcf HS hcc
          go_wp2_with (go_at_call 46; refine (CT.out).mono ?_; rintro e w' ⟨rfl, ⟨ov', hp'⟩, ht'⟩; have HP2 := Lib.hid hp'; have HR2 := Lib.hid (HRR.out w' ht'); have HT2 := Lib.hid (HT.out.trans (HH.out.mine ht')); clear hp' ht')
          go_roundw
          case rel => exact ⟨k + 1, by have := HLT.out; have := HN.out; omega, by go_num, by rw [HS2.out]; exact ⟨hv, pv, ov', _, by rw [List.map_append, HE1.out]; rfl, HP2.out⟩, by rw [HN.out]; exact HR2.out, HT2.out⟩
          case measure => rw [hwk]; clear hwk; have := HLT.out; simp [RowKit.intOf]; omega
    · obtain rfl : k = n := by omega
      have htk : rs.take k = rs := List.take_of_length_le (by rw [HN.out]; omega)
      rw [htk] at hp
      have i2 : ((k : Int) < (k : Int)) = False := by simp
      clear hlt hk
      go_wp2
      go_end0
      exact ⟨rfl, hp, ht⟩
theorem RpAt.cells {w : World} {q Bo : Nat} {O : Nat → Prop} {S : PS} {al : List ActD} (h : RpAt w q Bo O S al) : (∃ hv pv ov, RCells w q S hv pv ov) ∧ ∀ k, w.frozen? ⟨q, k, none⟩ = false := by
  obtain ⟨hv, pv, ov, xs, _, h⟩ := h
  exact ⟨⟨hv, pv, ov, h.cells⟩, h.frozen⟩
/-- the state is stored -/
theorem RpAt.setSt {w : World} {q Bo : Nat} {O : Nat → Prop} {S : PS} {al : List ActD} (h : RpAt w q Bo O S al) (k : Nat) : RpAt (w.setCell ⟨q, 0, none⟩ (.int .i64 k)) q Bo O { S with st := k } al := by
  obtain ⟨hv, pv, ov, xs, e1, h⟩ := h
  exact ⟨hv, pv, ov, xs, e1, h.store (S' := { S with st := k }) rfl rfl rfl ⟨h.ok.ok.setSt k, h.ok.bey⟩⟩
theorem RpAt.setFin {w : World} {q Bo : Nat} {O : Nat → Prop} {S : PS} {al : List ActD} (h : RpAt w q Bo O S al) (b : UInt8) : RpAt (w.setCell ⟨q, 7, none⟩ (.int .u8 b.toNat)) q Bo O { S with fin := b } al := by
  obtain ⟨hv, pv, ov, xs, e1, h⟩ := h
  exact ⟨hv, pv, ov, xs, e1, h.store (S' := { S with fin := b }) rfl rfl rfl ⟨h.ok.ok.setFin b, h.ok.bey⟩⟩
theorem RpAt.setPriv {w : World} {q Bo : Nat} {O : Nat → Prop} {S : PS} {al : List ActD} (h : RpAt w q Bo O S al) (b : UInt8) : RpAt (w.setCell ⟨q, 2, none⟩ (.int .u8 b.toNat)) q Bo O { S with priv := b } al := by
  obtain ⟨hv, pv, ov, xs, e1, h⟩ := h
  exact ⟨hv, pv, ov, xs, e1, h.store (S' := { S with priv := b }) rfl rfl rfl ⟨h.ok.ok.setPriv b, h.ok.bey⟩⟩
theorem RpAt.c0 {w : World} {q Bo : Nat} {O : Nat → Prop} {S : PS} {al : List ActD} (h : RpAt w q Bo O S al) : w.cell? ⟨q, 0, none⟩ = some (.int .i64 S.st) := by
  obtain ⟨hv, pv, ov, xs, _, h⟩ := h
  exact h.cells.c0
theorem RpAt.c5 {w : World} {q Bo : Nat} {O : Nat → Prop} {S : PS} {al : List ActD} (h : RpAt w q Bo O S al) : w.cell? ⟨q, 5, none⟩ = some (str S.inter) := by
  obtain ⟨hv, pv, ov, xs, _, h⟩ := h
  exact h.cells.c5
theorem RpAt.c6 {w : World} {q Bo : Nat} {O : Nat → Prop} {S : PS} {al : List ActD} (h : RpAt w q Bo O S al) : w.cell? ⟨q, 6, none⟩ = some (str S.text) := by
  obtain ⟨hv, pv, ov, xs, _, h⟩ := h
  exact h.cells.c6
theorem RpAt.frozen {w : World} {q Bo : Nat} {O : Nat → Prop} {S : PS} {al : List ActD} (h : RpAt w q Bo O S al) (k : Nat) : w.frozen? ⟨q, k, none⟩ = false := by
  obtain ⟨hv, pv, ov, xs, _, h⟩ := h
  exact h.frozen k
abbrev Rarg (q : Nat) (b : UInt8) : Array Value := #[.pointer (some ⟨q, 0, none⟩), .int .u8 b.toNat]

set_option maxRecDepth 1000000 in
set_option maxHeartbeats 2000000 in
theorem rcontrol_any (w : World) (q Bo : Nat) (O : Nat → Prop) (S : PS) (al : List ActD) (b : UInt8) (h : RpAt w q Bo O S al) (hl : al.length ≤ 900000000) : Calls Tryd.prog 54 #[.pointer (some ⟨q, 0, none⟩), .int .u8 b.toNat] w (RpPost w q Bo O (rControlP S b).1 (al ++ (rControlP S b).2)) := by
  have c0 := h.c0
  have CT := Lib.hid (tell_nil w q Bo O S al h (exeA b) rfl hl)
  have H := Lib.hid h
  clear h hl
  by_cases h7 : 7 ≤ S.st ∧ S.st ≤ 10
  · have e : rControlP S b = (S, []) := by unfold rControlP; rw [if_pos h7]
    rw [e]
    have g1 : ((7 : Int) ≤ (S.st : Int)) = True := by simp; omega
    have g2 : ((S.st : Int) ≤ 10) = True := by simp; omega
    clear h7 e
    go_enter Tryd.func54, Tryd.ntmps54
    go_wp2
    go_end0
    exact ⟨rfl, by rw [List.append_nil]; exact H.out, Touch.refl _ _⟩
  · have e : rControlP S b = (S, [exeA b]) := by unfold rControlP; rw [if_neg h7]
    rw [e]
    rcases (show ¬ 7 ≤ S.st ∨ (7 ≤ S.st ∧ ¬ S.st ≤ 10) by omega) with hc | hc
    · have g1 : ((7 : Int) ≤ (S.st : Int)) = False := by simp; omega
      clear h7 e hc
      go_enter Tryd.func54, Tryd.ntmps54
      go_wp2_with (go_at_call 46; refine (CT.out).mono ?_; rintro e w' ⟨rfl, hp', ht'⟩; have HP := Lib.hid hp'; have HT := Lib.hid ht'; clear hp' ht')
      go_end0
      exact ⟨rfl, HP.out, HT.out⟩
    · have g1 : ((7 : Int) ≤ (S.st : Int)) = True := by simp; omega
      have g2 : ((S.st : Int) ≤ 10) = False := by simp; omega
      clear h7 e hc
      go_enter Tryd.func54, Tryd.ntmps54
      go_wp2_with (go_at_call 46; refine (CT.out).mono ?_; rintro e w' ⟨rfl, hp', ht'⟩; have HP := Lib.hid hp'; have HT := Lib.hid ht'; clear hp' ht')
      go_end0
      exact ⟨rfl, HP.out, HT.out⟩

set_option maxRecDepth 1000000 in
set_option maxHeartbeats 2000000 in
theorem rinText_any (w : World) (q Bo : Nat) (O : Nat → Prop) (S : PS) (al : List ActD) (b : UInt8) (h : RpAt w q Bo O S al) (hl : al.length ≤ 900000000) : Calls Tryd.prog 53 #[.pointer (some ⟨q, 0, none⟩), .int .u8 b.toNat] w (RpPost w q Bo O (rTextP S b).1 (al ++ (rTextP S b).2)) := by
  have c0 := h.c0
  have c6 := h.c6
  have CP := Lib.hid (putT_any w q Bo O S al b h)
  have CT := Lib.hid (tell_nil w q Bo O S al h (oscA S) rfl hl)
  have H := Lib.hid h
  clear h hl
  by_cases h11 : S.st = 11
  · rw [h11] at c0
    by_cases hb : b.toNat = 127
    · have e : rTextP S b = (S, []) := by unfold rTextP; rw [if_pos h11, if_pos hb]
      rw [e, hb]
      clear h11 e CP CT
      go_enter Tryd.func53, Tryd.ntmps53
      go_wp2
      go_end0
      exact ⟨rfl, by rw [List.append_nil]; exact H.out, Touch.refl _ _⟩
    · have e : rTextP S b = (addTextP S b, []) := by unfold rTextP; rw [if_pos h11, if_neg hb]
      rw [e]
      have g1 : ((b.toNat : Int) != 127) = true := bne_iff_ne.2 (by omega)
      clear h11 e CT hb
      go_enter Tryd.func53, Tryd.ntmps53
      go_wp2_with (go_at_call 69; refine (CP.out).mono ?_; rintro e w' ⟨rfl, hp', ht'⟩; have HP := Lib.hid hp'; have HT := Lib.hid ht'; clear hp' ht')
      go_end0
      exact ⟨rfl, by rw [List.append_nil]; exact HP.out, HT.out⟩
  · have g0 : ((S.st : Int) == 11) = false := beq_eq_false_iff_ne.2 (by omega)
    by_cases hb : b.toNat = 7
    · have e : rTextP S b = ({ S with st := 0 }, [oscA S]) := by unfold rTextP; rw [if_neg h11, if_pos hb]
      rw [e, hb]
      have HS : Hid (∀ W, RpAt W q Bo O S (al ++ [oscA S]) → RpAt (W.setCell ⟨q, 0, none⟩ (.int .i64 0)) q Bo O { S with st := 0 } (al ++ [oscA S])) := Lib.hid fun W hW => hW.setSt 0
      clear h11 e CP
      go_enter Tryd.func53, Tryd.ntmps53
      go_wp2_with (go_at_call 46; refine (CT.out).mono ?_; rintro e w' ⟨rfl, hp', ht'⟩; have HP := Lib.hid hp'; have HT := Lib.hid ht'; have k0 := hp'.c0; have k1 := hp'.frozen 0; clear hp' ht')
      go_end0
      exact ⟨rfl, HS.out _ HP.out, HT.out.trans (mine_set _ q O 0 _)⟩
    · have g1 : ((b.toNat : Int) == 7) = false := beq_eq_false_iff_ne.2 (by omega)
      by_cases hb2 : 32 ≤ b.toNat
      · have e : rTextP S b = (addTextP S b, []) := by unfold rTextP; rw [if_neg h11, if_neg hb, if_pos hb2]
        rw [e]
        have g2 : ((32 : Int) ≤ (b.toNat : Int)) = True := by simp; omega
        clear h11 e CT hb hb2
        go_enter Tryd.func53, Tryd.ntmps53
        go_wp2_with (go_at_call 69; refine (CP.out).mono ?_; rintro e w' ⟨rfl, hp', ht'⟩; have HP := Lib.hid hp'; have HT := Lib.hid ht'; clear hp' ht')
        go_end0
        exact ⟨rfl, by rw [List.append_nil]; exact HP.out, HT.out⟩
      · have e : rTextP S b = (S, []) := by unfold rTextP; rw [if_neg h11, if_neg hb, if_neg hb2]
        rw [e]
        have g2 : ((32 : Int) ≤ (b.toNat : Int)) = False := by simp; omega
        clear h11 e CT CP hb hb2
        go_enter Tryd.func53, Tryd.ntmps53
        go_wp2
        go_end0
        exact ⟨rfl, by rw [List.append_nil]; exact H.out, Touch.refl _ _⟩
end

section
open Go.RowKit Go.Shelf Go.Lib
attribute [local go_sem] Oper.semAt_some

set_option maxRecDepth 1000000 in
set_option maxHeartbeats 2000000 in
theorem rbegins_any (w : World) (q Bo : Nat) (O : Nat → Prop) (S : PS) (al : List ActD) (b : UInt8) (h : RpAt w q Bo O S al) (hl : al.length ≤ 900000000) : Calls Tryd.prog 70 #[.pointer (some ⟨q, 0, none⟩), .int .u8 b.toNat] w (RpPost w q Bo O (rBeginsP S b).1 (al ++ (rBeginsP S b).2)) := by
  have c0 := h.c0
  have f0 := h.frozen 0
  have HS : Hid (∀ W S al (k : Nat), RpAt W q Bo O S al → RpAt (W.setCell ⟨q, 0, none⟩ (.int .i64 k)) q Bo O { S with st := k } al) := Lib.hid fun W S al k hW => hW.setSt k
  have CT := Lib.hid (tell_nil w q Bo O S al h (escA b []) rfl hl)
  have H := Lib.hid h
  by_cases h48 : b.toNat < 48
  · have e : rBeginsP S b = ({ addInterP S b with st := 2 }, []) := by unfold rBeginsP; rw [if_pos h48]
    rw [e]
    have CG := Lib.hid (gather_any w q Bo O S al b h (by omega))
    have g1 : ((b.toNat : Int) < 48) = True := by simp; omega
    clear h h48 e CT hl
    go_enter Tryd.func70, Tryd.ntmps70
    go_wp2_with (go_at_call 71; refine (CG.out).mono ?_; rintro e w' ⟨rfl, hp', ht'⟩; have HP := Lib.hid hp'; have HT := Lib.hid ht'; have k0 := hp'.c0; have k1 := hp'.frozen 0; clear hp' ht')
    go_end0
    exact ⟨rfl, by rw [List.append_nil]; exact HS.out _ _ _ 2 HP.out, HT.out.trans (mine_set _ q O 0 _)⟩
  by_cases h91 : b.toNat = 91
  · have e : rBeginsP S b = ({ S with st := 3 }, []) := by unfold rBeginsP; rw [if_neg h48, if_pos h91]
    rw [e, h91]
    clear h CT hl h91 e
    go_enter Tryd.func70, Tryd.ntmps70
    go_wp2
    go_end0
    exact ⟨rfl, by rw [List.append_nil]; exact HS.out _ _ _ 3 H.out, mine_set _ q O 0 _⟩
  by_cases h93 : b.toNat = 93
  · have e : rBeginsP S b = ({ S with st := 12 }, []) := by unfold rBeginsP; rw [if_neg h48, if_neg h91, if_pos h93]
    rw [e, h93]
    clear h CT hl h93 e
    go_enter Tryd.func70, Tryd.ntmps70
    go_wp2
    go_end0
    exact ⟨rfl, by rw [List.append_nil]; exact HS.out _ _ _ 12 H.out, mine_set _ q O 0 _⟩
  by_cases h80 : b.toNat = 80
  · have e : rBeginsP S b = ({ S with st := 7 }, []) := by unfold rBeginsP; rw [if_neg h48, if_neg h91, if_neg h93, if_pos h80]
    rw [e, h80]
    clear h CT hl h80 e
    go_enter Tryd.func70, Tryd.ntmps70
    go_wp2
    go_end0
    exact ⟨rfl, by rw [List.append_nil]; exact HS.out _ _ _ 7 H.out, mine_set _ q O 0 _⟩
  by_cases h88 : b.toNat = 88 ∨ b.toNat = 94 ∨ b.toNat = 95
  · have e : rBeginsP S b = ({ S with st := 13 }, []) := by unfold rBeginsP; rw [if_neg h48, if_neg h91, if_neg h93, if_neg h80, if_pos h88]
    rw [e]
    clear h CT hl e
    rcases h88 with h88 | h88 | h88
    all_goals
      rw [h88]
      clear h88
      go_enter Tryd.func70, Tryd.ntmps70
      go_wp2
      go_end0
      exact ⟨rfl, by rw [List.append_nil]; exact HS.out _ _ _ 13 H.out, mine_set _ q O 0 _⟩
  by_cases h92 : b.toNat = 92
  · have e : rBeginsP S b = ({ S with st := 0 }, []) := by unfold rBeginsP; rw [if_neg h48, if_neg h91, if_neg h93, if_neg h80, if_neg h88, if_pos h92]
    rw [e, h92]
    clear h CT hl h92 e
    go_enter Tryd.func70, Tryd.ntmps70
    go_wp2
    go_end0
    exact ⟨rfl, by rw [List.append_nil]; exact HS.out _ _ _ 0 H.out, mine_set _ q O 0 _⟩
  have e : rBeginsP S b = ({ S with st := 0 }, [escA b []]) := by unfold rBeginsP; rw [if_neg h48, if_neg h91, if_neg h93, if_neg h80, if_neg h88, if_neg h92]
  rw [e]
  have g0 : ((b.toNat : Int) < 48) = False := by simp; omega
  have g91 : ((b.toNat : Int) == 91) = false := beq_eq_false_iff_ne.2 (by omega)
  have g93 : ((b.toNat : Int) == 93) = false := beq_eq_false_iff_ne.2 (by omega)
  have g80 : ((b.toNat : Int) == 80) = false := beq_eq_false_iff_ne.2 (by omega)
  have g88 : ((b.toNat : Int) == 88) = false := beq_eq_false_iff_ne.2 (by omega)
  have g94 : ((b.toNat : Int) == 94) = false := beq_eq_false_iff_ne.2 (by omega)
  have g95 : ((b.toNat : Int) == 95) = false := beq_eq_false_iff_ne.2 (by omega)
  have g92 : ((b.toNat : Int) == 92) = false := beq_eq_false_iff_ne.2 (by omega)
  clear h hl e h48 h91 h93 h80 h88 h92
  go_enter Tryd.func70, Tryd.ntmps70
  go_wp2_with (go_at_call 46; refine (CT.out).mono ?_; rintro e w' ⟨rfl, hp', ht'⟩; have HP := Lib.hid hp'; have HT := Lib.hid ht'; have k0 := hp'.c0; have k1 := hp'.frozen 0; clear hp' ht')
  go_end0
  exact ⟨rfl, HS.out _ _ _ 0 HP.out, HT.out.trans (mine_set _ q O 0 _)⟩

/-- an action with the parameters is told, these being a list of their own -/
theorem RpIn.tellCopy {w w1 : World} {q Bo : Nat} {O : Nat → Prop} {S : PS} {hv pv ov v : Value} {xs : List (ActD × Value)} (h : RpIn w q Bo O S hv pv ov xs) (c : ActD) (hc : c.ps = S.ps) (hl : xs.length ≤ 900000000) (hb : Below w.heap.size w w1) (hr : w1.ownsRow w.heap.size 3 1 v S.ps.length (intVals S.ps)) :
    Calls Tryd.prog 46 #[.pointer (some ⟨q, 0, none⟩), actVal c v] w1 fun e w' => e = .returned (.tuple #[]) ∧ (∃ ov', RpIn w' q Bo O S hv pv ov' (xs ++ [(c, v)])) ∧ Touch (Mine q O) w1 w' := by
  have h1 := h.below hb
  refine (tell_any w1 q Bo O S hv pv ov xs h1 c v (by rw [hc]; exact own_less hr h.base) (fun k hk => ⟨h.news k (own_lt hr k hk).1, fun e => ?_⟩) hl).mono ?_
  · have := (own_lt h.ps k e).2
    have := (own_lt hr k hk).1
    omega
  · rintro e w' ⟨rfl, h', ht⟩
    exact ⟨rfl, h', h1.mine ht⟩

set_option maxRecDepth 1000000 in
set_option maxHeartbeats 4000000 in
theorem rends_any (w : World) (q Bo : Nat) (O : Nat → Prop) (S : PS) (al : List ActD) (b : UInt8) (h : RpAt w q Bo O S al) (hl : al.length ≤ 900000000) : Calls Tryd.prog 91 #[.pointer (some ⟨q, 0, none⟩), .int .u8 b.toNat] w (RpPost w q Bo O (rEndsP S b).1 (al ++ (rEndsP S b).2)) := by
  have c0 := h.c0
  have f0 := h.frozen 0
  have f7 := h.frozen 7
  have c7 : ∃ u, w.cell? ⟨q, 7, none⟩ = some u := by obtain ⟨hv, pv, ov, xs, _, h⟩ := h; exact ⟨_, h.cells.c7⟩
  obtain ⟨u7, c7⟩ := c7
  have HS : Hid (∀ W S al (k : Nat), RpAt W q Bo O S al → RpAt (W.setCell ⟨q, 0, none⟩ (.int .i64 k)) q Bo O { S with st := k } al) := Lib.hid fun W S al k hW => hW.setSt k
  have HF := Lib.hid (h.setFin b)
  have H := Lib.hid h
  by_cases h7 : 7 ≤ S.st
  · have g7 : ((7 : Int) ≤ (S.st : Int)) = True := by simp; omega
    by_cases h10 : S.st = 10
    · have e : rEndsP S b = ({ S with fin := b, st := 13 }, []) := by unfold rEndsP; rw [if_pos h7, if_pos h10]
      rw [e]
      rw [h10] at c0
      clear h hl h7 h10 e g7
      go_enter Tryd.func91, Tryd.ntmps91
      go_wp2
      go_end0
      exact ⟨rfl, by rw [List.append_nil]; exact HS.out _ _ _ 13 HF.out, (mine_set _ q O 7 _).trans (mine_set _ q O 0 _)⟩
    · have e : rEndsP S b = ({ S with fin := b, st := 11 }, []) := by unfold rEndsP; rw [if_pos h7, if_neg h10]
      rw [e]
      have g10 : ((S.st : Int) == 10) = false := beq_eq_false_iff_ne.2 (by omega)
      clear h hl h7 h10 e
      go_enter Tryd.func91, Tryd.ntmps91
      go_wp2
      go_end0
      exact ⟨rfl, by rw [List.append_nil]; exact HS.out _ _ _ 11 HF.out, (mine_set _ q O 7 _).trans (mine_set _ q O 0 _)⟩
  · have g7 : ((7 : Int) ≤ (S.st : Int)) = False := by simp; omega
    by_cases h6 : S.st = 6
    · have e : rEndsP S b = ({ S with st := 0 }, []) := by unfold rEndsP; rw [if_neg h7, if_pos h6]
      rw [e]
      rw [h6] at c0
      clear h hl h7 h6 e g7
      go_enter Tryd.func91, Tryd.ntmps91
      go_wp2
      go_end0
      exact ⟨rfl, by rw [List.append_nil]; exact HS.out _ _ _ 0 H.out, mine_set _ q O 0 _⟩
    · have e : rEndsP S b = ({ S with st := 0 }, [csiA S b]) := by unfold rEndsP; rw [if_neg h7, if_neg h6]
      rw [e]
      have g6 : ((S.st : Int) != 6) = true := bne_iff_ne.2 (by omega)
      obtain ⟨hv, pv, ov, xs, e1, h1⟩ := h
      have c2 := h1.cells.c2
      have c5 := h1.cells.c5
      have hxl : xs.length ≤ 900000000 := by rw [← List.length_map (f := Prod.fst), e1]; exact hl
      have CL := Lib.hid (list_any w.drew q Bo O S hv pv ov xs h1.drew)
      have CT := Lib.hid fun w1 v (hb : Below w.drew.heap.size w.drew w1) (hr : w1.ownsRow w.drew.heap.size 3 1 v S.ps.length (intVals S.ps)) => h1.drew.tellCopy (csiA S b) rfl hxl hb hr
      have HK : Hid (∀ w1, Below w.drew.heap.size w.drew w1 → w1.cell? ⟨q, 2, none⟩ = some (.int .u8 S.priv.toNat) ∧ w1.cell? ⟨q, 5, none⟩ = some (str S.inter)) := Lib.hid fun w1 hb => ⟨(h1.drew.below hb).cells.c2, (h1.drew.below hb).cells.c5⟩
      have HE := Lib.hid e1
      clear h1 hl h7 h6 e hxl e1 H HF f0 f7 c7
      go_enter Tryd.func91, Tryd.ntmps91
      go_wp2_with fail
      go_region_held3 (fun w' => w'.cell? ⟨q, 2, none⟩ = some (.int .u8 S.priv.toNat) ∧ w'.cell? ⟨q, 5, none⟩ = some (str S.inter)) (first | go_keep | (refine ⟨?_, ?_⟩ <;> assumption)) (first
        | (go_at_call 51; refine (CL.out).mono ?_; rintro e w1 ⟨v1, rfl, hr1, hb1⟩; obtain ⟨k2, k5⟩ := HK.out w1 hb1; obtain ⟨A1, cp1, hv1, _⟩ := own_form hr1; subst hv1; have HR1 := Lib.hid hr1; have HB1 := Lib.hid hb1; clear hr1 hb1)
        | (go_at_call 46; refine (CT.out _ _ HB1.out HR1.out).mono ?_; rintro e w2 ⟨rfl, ⟨ov', hp2⟩, ht2⟩; have k2' := hp2.cells.c2; have k5' := hp2.cells.c5; have k0' := hp2.cells.c0; have kf' := hp2.frozen 0; have HP2 := Lib.hid hp2; have HT2 := Lib.hid ht2; clear hp2 ht2))
      all_goals
        go_wp2_with fail
        go_end0
        exact ⟨rfl, HS.out _ _ _ 0 ⟨hv, pv, ov', _, by rw [List.map_append, HE.out]; rfl, HP2.out⟩, (((Touch.refl _ _).drew.trans (mine_below q O HB1.out)).trans HT2.out).trans (mine_set _ q O 0 _)⟩
end

section
open Go.RowKit Go.Shelf Go.Lib
attribute [local go_sem] Oper.semAt_some

theorem rSeq_ends {S : PS} {b : UInt8} (h : 64 ≤ b.toNat) : rSeqP S b = rEndsP S b := by unfold rSeqP; rw [if_pos h]
theorem rSeq_none {S : PS} {b : UInt8} (h : b.toNat < 64) (h3 : S.st - rBase S = 3) : rSeqP S b = (S, []) := by unfold rSeqP; rw [if_neg (by omega), if_pos h3]
theorem rSeq_gather {S : PS} {b : UInt8} (h : b.toNat < 48) (h3 : S.st - rBase S ≠ 3) : rSeqP S b = ({ addInterP S b with st := rBase S + 2 }, []) := by unfold rSeqP; rw [if_neg (by omega), if_neg h3, if_pos h]
theorem rSeq_bad {S : PS} {b : UInt8} (h : b.toNat < 64) (h48 : 48 ≤ b.toNat) (h3 : S.st - rBase S ≠ 3) (hx : S.st - rBase S = 2 ∨ b.toNat = 58 ∨ (S.st - rBase S = 1 ∧ 60 ≤ b.toNat)) : rSeqP S b = ({ S with st := rBase S + 3 }, []) := by unfold rSeqP; rw [if_neg (by omega), if_neg h3, if_neg (by omega), if_pos hx]
theorem rSeq_priv {S : PS} {b : UInt8} (h : b.toNat < 64) (h60 : 60 ≤ b.toNat) (h3 : S.st - rBase S = 0) : rSeqP S b = ({ S with priv := b, st := rBase S + 1 }, []) := by unfold rSeqP; rw [if_neg (by omega), if_neg (by omega), if_neg (by omega), if_neg (by omega), if_pos h60]
theorem rSeq_next {S : PS} {b : UInt8} (h : b.toNat = 59) (h3 : S.st - rBase S < 2) : rSeqP S b = ({ beginP (begunP S) with st := rBase S + 1 }, []) := by unfold rSeqP; rw [if_neg (by omega), if_neg (by omega), if_neg (by omega), if_neg (by omega), if_neg (by omega), if_pos h]
theorem rSeq_digit {S : PS} {b : UInt8} (h : b.toNat < 58) (h48 : 48 ≤ b.toNat) (h3 : S.st - rBase S < 2) : rSeqP S b = ({ digitP (begunP S) b with st := rBase S + 1 }, []) := by unfold rSeqP; rw [if_neg (by omega), if_neg (by omega), if_neg (by omega), if_neg (by omega), if_neg (by omega), if_neg (by omega)]

set_option maxRecDepth 1000000 in
set_option maxHeartbeats 4000000 in
theorem rseq_3 (w : World) (q Bo : Nat) (O : Nat → Prop) (S : PS) (al : List ActD) (b : UInt8) (h : RpAt w q Bo O S al) (hl : al.length ≤ 900000000) (h3 : 3 ≤ S.st) (h10 : S.st ≤ 10) (hb7 : S.st < 7) : Calls Tryd.prog 72 #[.pointer (some ⟨q, 0, none⟩), .int .u8 b.toNat] w (RpPost w q Bo O (rSeqP S b).1 (al ++ (rSeqP S b).2)) := by
  have hB : rBase S = 3 := by unfold rBase; rw [if_neg (by omega)]
  have c0 := h.c0
  have f0 := h.frozen 0
  have f2 := h.frozen 2
  have c2 : ∃ u, w.cell? ⟨q, 2, none⟩ = some u := by obtain ⟨hv, pv, ov, xs, _, h⟩ := h; exact ⟨_, h.cells.c2⟩
  obtain ⟨u2, c2⟩ := c2
  have HS : Hid (∀ W S al (k : Nat), RpAt W q Bo O S al → RpAt (W.setCell ⟨q, 0, none⟩ (.int .i64 k)) q Bo O { S with st := k } al) := Lib.hid fun W S al k hW => hW.setSt k
  have HPr := Lib.hid (h.setPriv b)
  have H := Lib.hid h
  have CE := Lib.hid (rends_any w q Bo O S al b h hl)
  have CN := Lib.hid (rnext_any w q Bo O S al h)
  have CD := Lib.hid fun h48 h57 => rdigit_any w q Bo O S al b h h48 h57
  have CG := Lib.hid fun hb => gather_any w q Bo O S al b h hb
  obtain ⟨k, hk⟩ : ∃ k, S.st = 3 + k := ⟨S.st - 3, by omega⟩
  have hk3 : k ≤ 3 := by omega
  have e0 : S.st - rBase S = k := by rw [hB]; omega
  rw [hk] at c0
  have g7 : ((7 : Int) ≤ ((3 + k : Nat) : Int)) = False := by simp; omega
  have g7' : ((7 : Int) ≤ 3 + (k : Int)) = False := by simp; omega
  have hsub : wrap64 (((3 + k : Nat) : Int) - 3) = (k : Int) := by unfold wrap64; omega
  have hsub' : wrap64 ((3 : Int) + (k : Int) - 3) = (k : Int) := by unfold wrap64; omega
  clear h hl h3 h10 hb7 hk
  by_cases h64 : 64 ≤ b.toNat
  · rw [rSeq_ends h64]
    have g64 : ((64 : Int) ≤ (b.toNat : Int)) = True := by simp; omega
    clear h64 e0 hB hk3 CN CD CG HPr
    go_enter Tryd.func72, Tryd.ntmps72
    go_wp2_with (go_at_call 91; refine (CE.out).mono ?_; rintro e w' ⟨rfl, hp', ht'⟩; have HP := Lib.hid hp'; have HT := Lib.hid ht'; clear hp' ht')
    go_end0
    exact ⟨rfl, HP.out, HT.out⟩
  have h64' : b.toNat < 64 := by omega
  have g64 : ((64 : Int) ≤ (b.toNat : Int)) = False := by simp; omega
  by_cases hk3' : k = 3
  · have HE := Lib.hid (rSeq_none (S := S) h64' (by omega))
    rw [HE.out]
    subst hk3'
    clear h64 h64' e0 hB hk3 CN CD CG CE HPr HE
    go_enter Tryd.func72, Tryd.ntmps72
    go_wp2
    go_end0
    exact ⟨rfl, by rw [List.append_nil]; exact H.out, Touch.refl _ _⟩
  have k3 : ((k : Int) == 3) = false := beq_eq_false_iff_ne.2 (by omega)
  by_cases h48 : b.toNat < 48
  · have HE := Lib.hid (rSeq_gather (S := S) h48 (by omega))
    rw [HE.out, hB]
    have CG' := Lib.hid (CG.out (by omega))
    have g48 : ((b.toNat : Int) < 48) = True := by simp; omega
    clear h64 h64' e0 hB hk3 CN CD CG CE HPr HE hk3' h48
    go_enter Tryd.func72, Tryd.ntmps72
    go_wp2_with (go_at_call 71; refine (CG'.out).mono ?_; rintro e w' ⟨rfl, hp', ht'⟩; have HP := Lib.hid hp'; have HT := Lib.hid ht'; have k0 := hp'.c0; have k1 := hp'.frozen 0; clear hp' ht')
    go_end0
    exact ⟨rfl, by rw [List.append_nil]; exact HS.out _ _ _ 5 HP.out, HT.out.trans (mine_set _ q O 0 _)⟩
  have g48 : ((b.toNat : Int) < 48) = False := by simp; omega
  by_cases hbad : k = 2 ∨ b.toNat = 58 ∨ (k = 1 ∧ 60 ≤ b.toNat)
  · have HE := Lib.hid (rSeq_bad (S := S) h64' (by omega) (by omega) (by rw [e0]; exact hbad))
    rw [HE.out, hB]
    rcases (show k = 2 ∨ (k ≠ 2 ∧ b.toNat = 58) ∨ (k = 1 ∧ b.toNat ≠ 58 ∧ 60 ≤ b.toNat) by omega) with hx | hx | hx
    · subst hx
      clear h64 h64' e0 hB hk3 CN CD CG CE HPr HE hk3' h48 hbad
      go_enter Tryd.func72, Tryd.ntmps72
      go_wp2
      go_end0
      exact ⟨rfl, by rw [List.append_nil]; exact HS.out _ _ _ 6 H.out, mine_set _ q O 0 _⟩
    · have k2 : ((k : Int) == 2) = false := beq_eq_false_iff_ne.2 (by omega)
      have g58 : ((b.toNat : Int) == 58) = true := beq_iff_eq.2 (by omega)
      clear h64 h64' e0 hB hk3 CN CD CG CE HPr HE hk3' h48 hbad hx
      go_enter Tryd.func72, Tryd.ntmps72
      go_wp2
      go_end0
      exact ⟨rfl, by rw [List.append_nil]; exact HS.out _ _ _ 6 H.out, mine_set _ q O 0 _⟩
    · have g58 : ((b.toNat : Int) == 58) = false := beq_eq_false_iff_ne.2 (by omega)
      have g60 : ((60 : Int) ≤ (b.toNat : Int)) = True := by simp; omega
      obtain ⟨hx, _, _⟩ := hx
      subst hx
      clear h64 h64' e0 hB hk3 CN CD CG CE HPr HE hk3' h48 hbad
      go_enter Tryd.func72, Tryd.ntmps72
      go_wp2
      go_end0
      exact ⟨rfl, by rw [List.append_nil]; exact HS.out _ _ _ 6 H.out, mine_set _ q O 0 _⟩
  have k2 : ((k : Int) == 2) = false := beq_eq_false_iff_ne.2 (by omega)
  have g58 : ((b.toNat : Int) == 58) = false := beq_eq_false_iff_ne.2 (by omega)
  by_cases h60 : 60 ≤ b.toNat
  · have hk0 : k = 0 := by omega
    have HE := Lib.hid (rSeq_priv (S := S) h64' h60 (by omega))
    rw [HE.out, hB]
    have g60 : ((60 : Int) ≤ (b.toNat : Int)) = True := by simp; omega
    subst hk0
    clear h64 h64' e0 hB hk3 CN CD CG CE HE hk3' h48 hbad h60
    go_enter Tryd.func72, Tryd.ntmps72
    go_wp2
    go_end0
    exact ⟨rfl, by rw [List.append_nil]; exact HS.out _ _ _ 4 HPr.out, (mine_set _ q O 2 _).trans (mine_set _ q O 0 _)⟩
  have g60 : ((60 : Int) ≤ (b.toNat : Int)) = False := by simp; omega
  by_cases h59 : b.toNat = 59
  · have HE := Lib.hid (rSeq_next (S := S) h59 (by omega))
    rw [HE.out, hB, h59]
    have hk01 : k = 0 ∨ k = 1 := by omega
    clear h64 h64' e0 hB hk3 CD CG CE HE hk3' h48 hbad h60 h59 HPr g48 g58 g60 g64
    rcases hk01 with rfl | rfl
    all_goals
      go_enter Tryd.func72, Tryd.ntmps72
      go_wp2_with (go_at_call 92; refine (CN.out).mono ?_; rintro e w' ⟨rfl, hp', ht'⟩; have HP := Lib.hid hp'; have HT := Lib.hid ht'; have k0 := hp'.c0; have k1 := hp'.frozen 0; clear hp' ht')
      go_end0
      exact ⟨rfl, by rw [List.append_nil]; exact HS.out _ _ _ 4 HP.out, HT.out.trans (mine_set _ q O 0 _)⟩
  have HE := Lib.hid (rSeq_digit (S := S) (b := b) (by omega) (by omega) (by omega))
  rw [HE.out, hB]
  have CD' := Lib.hid (CD.out (by omega) (by omega))
  have g59 : ((b.toNat : Int) == 59) = false := beq_eq_false_iff_ne.2 (by omega)
  have hk01 : k = 0 ∨ k = 1 := by omega
  clear h64 h64' e0 hB hk3 CN CD CG CE HE hk3' h48 hbad h60 h59 HPr
  rcases hk01 with rfl | rfl
  all_goals
    go_enter Tryd.func72, Tryd.ntmps72
    go_wp2_with (go_at_call 93; refine (CD'.out).mono ?_; rintro e w' ⟨rfl, hp', ht'⟩; have HP := Lib.hid hp'; have HT := Lib.hid ht'; have k0 := hp'.c0; have k1 := hp'.frozen 0; clear hp' ht')
    go_end0
    exact ⟨rfl, by rw [List.append_nil]; exact HS.out _ _ _ 4 HP.out, HT.out.trans (mine_set _ q O 0 _)⟩
set_option maxRecDepth 1000000 in
set_option maxHeartbeats 4000000 in
theorem rseq_7 (w : World) (q Bo : Nat) (O : Nat → Prop) (S : PS) (al : List ActD) (b : UInt8) (h : RpAt w q Bo O S al) (hl : al.length ≤ 900000000) (h3 : 3 ≤ S.st) (h10 : S.st ≤ 10) (hb7 : 7 ≤ S.st) : Calls Tryd.prog 72 #[.pointer (some ⟨q, 0, none⟩), .int .u8 b.toNat] w (RpPost w q Bo O (rSeqP S b).1 (al ++ (rSeqP S b).2)) := by
  have hB : rBase S = 7 := by unfold rBase; rw [if_pos hb7]
  have c0 := h.c0
  have f0 := h.frozen 0
  have f2 := h.frozen 2
  have c2 : ∃ u, w.cell? ⟨q, 2, none⟩ = some u := by obtain ⟨hv, pv, ov, xs, _, h⟩ := h; exact ⟨_, h.cells.c2⟩
  obtain ⟨u2, c2⟩ := c2
  have HS : Hid (∀ W S al (k : Nat), RpAt W q Bo O S al → RpAt (W.setCell ⟨q, 0, none⟩ (.int .i64 k)) q Bo O { S with st := k } al) := Lib.hid fun W S al k hW => hW.setSt k
  have HPr := Lib.hid (h.setPriv b)
  have H := Lib.hid h
  have CE := Lib.hid (rends_any w q Bo O S al b h hl)
  have CN := Lib.hid (rnext_any w q Bo O S al h)
  have CD := Lib.hid fun h48 h57 => rdigit_any w q Bo O S al b h h48 h57
  have CG := Lib.hid fun hb => gather_any w q Bo O S al b h hb
  obtain ⟨k, hk⟩ : ∃ k, S.st = 7 + k := ⟨S.st - 7, by omega⟩
  have hk3 : k ≤ 3 := by omega
  have e0 : S.st - rBase S = k := by rw [hB]; omega
  rw [hk] at c0
  have g7 : ((7 : Int) ≤ ((7 + k : Nat) : Int)) = True := by simp; omega
  have g7' : ((7 : Int) ≤ 7 + (k : Int)) = True := by simp; omega
  have hsub : wrap64 (((7 + k : Nat) : Int) - 7) = (k : Int) := by unfold wrap64; omega
  have hsub' : wrap64 ((7 : Int) + (k : Int) - 7) = (k : Int) := by unfold wrap64; omega
  clear h hl h3 h10 hb7 hk
  by_cases h64 : 64 ≤ b.toNat
  · rw [rSeq_ends h64]
    have g64 : ((64 : Int) ≤ (b.toNat : Int)) = True := by simp; omega
    clear h64 e0 hB hk3 CN CD CG HPr
    go_enter Tryd.func72, Tryd.ntmps72
    go_wp2_with (go_at_call 91; refine (CE.out).mono ?_; rintro e w' ⟨rfl, hp', ht'⟩; have HP := Lib.hid hp'; have HT := Lib.hid ht'; clear hp' ht')
    go_end0
    exact ⟨rfl, HP.out, HT.out⟩
  have h64' : b.toNat < 64 := by omega
  have g64 : ((64 : Int) ≤ (b.toNat : Int)) = False := by simp; omega
  by_cases hk3' : k = 3
  · have HE := Lib.hid (rSeq_none (S := S) h64' (by omega))
    rw [HE.out]
    subst hk3'
    clear h64 h64' e0 hB hk3 CN CD CG CE HPr HE
    go_enter Tryd.func72, Tryd.ntmps72
    go_wp2
    go_end0
    exact ⟨rfl, by rw [List.append_nil]; exact H.out, Touch.refl _ _⟩
  have k3 : ((k : Int) == 3) = false := beq_eq_false_iff_ne.2 (by omega)
  by_cases h48 : b.toNat < 48
  · have HE := Lib.hid (rSeq_gather (S := S) h48 (by omega))
    rw [HE.out, hB]
    have CG' := Lib.hid (CG.out (by omega))
    have g48 : ((b.toNat : Int) < 48) = True := by simp; omega
    clear h64 h64' e0 hB hk3 CN CD CG CE HPr HE hk3' h48
    go_enter Tryd.func72, Tryd.ntmps72
    go_wp2_with (go_at_call 71; refine (CG'.out).mono ?_; rintro e w' ⟨rfl, hp', ht'⟩; have HP := Lib.hid hp'; have HT := Lib.hid ht'; have k0 := hp'.c0; have k1 := hp'.frozen 0; clear hp' ht')
    go_end0
    exact ⟨rfl, by rw [List.append_nil]; exact HS.out _ _ _ 9 HP.out, HT.out.trans (mine_set _ q O 0 _)⟩
  have g48 : ((b.toNat : Int) < 48) = False := by simp; omega
  by_cases hbad : k = 2 ∨ b.toNat = 58 ∨ (k = 1 ∧ 60 ≤ b.toNat)
  · have HE := Lib.hid (rSeq_bad (S := S) h64' (by omega) (by omega) (by rw [e0]; exact hbad))
    rw [HE.out, hB]
    rcases (show k = 2 ∨ (k ≠ 2 ∧ b.toNat = 58) ∨ (k = 1 ∧ b.toNat ≠ 58 ∧ 60 ≤ b.toNat) by omega) with hx | hx | hx
    · subst hx
      clear h64 h64' e0 hB hk3 CN CD CG CE HPr HE hk3' h48 hbad
      go_enter Tryd.func72, Tryd.ntmps72
      go_wp2
      go_end0
      exact ⟨rfl, by rw [List.append_nil]; exact HS.out _ _ _ 10 H.out, mine_set _ q O 0 _⟩
    · have k2 : ((k : Int) == 2) = false := beq_eq_false_iff_ne.2 (by omega)
      have g58 : ((b.toNat : Int) == 58) = true := beq_iff_eq.2 (by omega)
      clear h64 h64' e0 hB hk3 CN CD CG CE HPr HE hk3' h48 hbad hx
      go_enter Tryd.func72, Tryd.ntmps72
      go_wp2
      go_end0
      exact ⟨rfl, by rw [List.append_nil]; exact HS.out _ _ _ 10 H.out, mine_set _ q O 0 _⟩
    · have g58 : ((b.toNat : Int) == 58) = false := beq_eq_false_iff_ne.2 (by omega)
      have g60 : ((60 : Int) ≤ (b.toNat : Int)) = True := by simp; omega
      obtain ⟨hx, _, _⟩ := hx
      subst hx
      clear h64 h64' e0 hB hk3 CN CD CG CE HPr HE hk3' h48 hbad
      go_enter Tryd.func72, Tryd.ntmps72
      go_wp2
      go_end0
      exact ⟨rfl, by rw [List.append_nil]; exact HS.out _ _ _ 10 H.out, mine_set _ q O 0 _⟩
  have k2 : ((k : Int) == 2) = false := beq_eq_false_iff_ne.2 (by omega)
  have g58 : ((b.toNat : Int) == 58) = false := beq_eq_false_iff_ne.2 (by omega)
  by_cases h60 : 60 ≤ b.toNat
  · have hk0 : k = 0 := by omega
    have HE := Lib.hid (rSeq_priv (S := S) h64' h60 (by omega))
    rw [HE.out, hB]
    have g60 : ((60 : Int) ≤ (b.toNat : Int)) = True := by simp; omega
    subst hk0
    clear h64 h64' e0 hB hk3 CN CD CG CE HE hk3' h48 hbad h60
    go_enter Tryd.func72, Tryd.ntmps72
    go_wp2
    go_end0
    exact ⟨rfl, by rw [List.append_nil]; exact HS.out _ _ _ 8 HPr.out, (mine_set _ q O 2 _).trans (mine_set _ q O 0 _)⟩
  have g60 : ((60 : Int) ≤ (b.toNat : Int)) = False := by simp; omega
  by_cases h59 : b.toNat = 59
  · have HE := Lib.hid (rSeq_next (S := S) h59 (by omega))
    rw [HE.out, hB, h59]
    have hk01 : k = 0 ∨ k = 1 := by omega
    clear h64 h64' e0 hB hk3 CD CG CE HE hk3' h48 hbad h60 h59 HPr g48 g58 g60 g64
    rcases hk01 with rfl | rfl
    all_goals
      go_enter Tryd.func72, Tryd.ntmps72
      go_wp2_with (go_at_call 92; refine (CN.out).mono ?_; rintro e w' ⟨rfl, hp', ht'⟩; have HP := Lib.hid hp'; have HT := Lib.hid ht'; have k0 := hp'.c0; have k1 := hp'.frozen 0; clear hp' ht')
      go_end0
      exact ⟨rfl, by rw [List.append_nil]; exact HS.out _ _ _ 8 HP.out, HT.out.trans (mine_set _ q O 0 _)⟩
  have HE := Lib.hid (rSeq_digit (S := S) (b := b) (by omega) (by omega) (by omega))
  rw [HE.out, hB]
  have CD' := Lib.hid (CD.out (by omega) (by omega))
  have g59 : ((b.toNat : Int) == 59) = false := beq_eq_false_iff_ne.2 (by omega)
  have hk01 : k = 0 ∨ k = 1 := by omega
  clear h64 h64' e0 hB hk3 CN CD CG CE HE hk3' h48 hbad h60 h59 HPr
  rcases hk01 with rfl | rfl
  all_goals
    go_enter Tryd.func72, Tryd.ntmps72
    go_wp2_with (go_at_call 93; refine (CD'.out).mono ?_; rintro e w' ⟨rfl, hp', ht'⟩; have HP := Lib.hid hp'; have HT := Lib.hid ht'; have k0 := hp'.c0; have k1 := hp'.frozen 0; clear hp' ht')
    go_end0
    exact ⟨rfl, by rw [List.append_nil]; exact HS.out _ _ _ 8 HP.out, HT.out.trans (mine_set _ q O 0 _)⟩
theorem rseq_any (w : World) (q Bo : Nat) (O : Nat → Prop) (S : PS) (al : List ActD) (b : UInt8) (h : RpAt w q Bo O S al) (hl : al.length ≤ 900000000) (h3 : 3 ≤ S.st) (h10 : S.st ≤ 10) : Calls Tryd.prog 72 #[.pointer (some ⟨q, 0, none⟩), .int .u8 b.toNat] w (RpPost w q Bo O (rSeqP S b).1 (al ++ (rSeqP S b).2)) := by
  by_cases h7 : 7 ≤ S.st
  · exact rseq_7 w q Bo O S al b h hl h3 h10 h7
  · exact rseq_3 w q Bo O S al b h hl h3 h10 (by omega)

set_option maxRecDepth 1000000 in
set_option maxHeartbeats 4000000 in
theorem rgraphic_any (w : World) (q Bo : Nat) (O : Nat → Prop) (S : PS) (al : List ActD) (b : UInt8) (h : RpAt w q Bo O S al) (hl : al.length ≤ 900000000) (h10 : S.st ≤ 10) : Calls Tryd.prog 55 #[.pointer (some ⟨q, 0, none⟩), .int .u8 b.toNat] w (RpPost w q Bo O (rGraphicP S b).1 (al ++ (rGraphicP S b).2)) := by
  have c0 := h.c0
  have c5 := h.c5
  have f0 := h.frozen 0
  have HS : Hid (∀ W S al (k : Nat), RpAt W q Bo O S al → RpAt (W.setCell ⟨q, 0, none⟩ (.int .i64 k)) q Bo O { S with st := k } al) := Lib.hid fun W S al k hW => hW.setSt k
  have CP := Lib.hid (tell_nil w q Bo O S al h (printA b.toNat) rfl hl)
  have CT := Lib.hid (tell_nil w q Bo O S al h (escA b S.inter) rfl hl)
  have CB := Lib.hid (rbegins_any w q Bo O S al b h hl)
  have hw32 : wrap32 (b.toNat : Int) = (b.toNat : Int) := by have := b.toNat_lt; unfold wrap32; omega
  by_cases h0 : S.st = 0
  · have e : rGraphicP S b = (S, [printA b.toNat]) := by unfold rGraphicP; rw [if_pos h0]
    rw [e]
    rw [h0] at c0
    clear h hl h10 CT CB h0 e
    go_enter Tryd.func55, Tryd.ntmps55
    go_wp2_with (go_at_call 46; refine (CP.out).mono ?_; rintro e w' ⟨rfl, hp', ht'⟩; have HP := Lib.hid hp'; have HT := Lib.hid ht'; clear hp' ht')
    go_end0
    exact ⟨rfl, HP.out, HT.out⟩
  have g0 : ((S.st : Int) == 0) = false := beq_eq_false_iff_ne.2 (by omega)
  by_cases h1 : S.st = 1
  · have e : rGraphicP S b = rBeginsP S b := by unfold rGraphicP; rw [if_neg h0, if_pos h1]
    rw [e]
    rw [h1] at c0
    clear h hl h10 CT CP h0 h1 e g0
    go_enter Tryd.func55, Tryd.ntmps55
    go_wp2_with (go_at_call 70; refine (CB.out).mono ?_; rintro e w' ⟨rfl, hp', ht'⟩; have HP := Lib.hid hp'; have HT := Lib.hid ht'; clear hp' ht')
    go_end0
    exact ⟨rfl, HP.out, HT.out⟩
  have g1 : ((S.st : Int) == 1) = false := beq_eq_false_iff_ne.2 (by omega)
  by_cases h2 : S.st = 2
  · rw [h2] at c0
    by_cases h48 : b.toNat < 48
    · have e : rGraphicP S b = (addInterP S b, []) := by unfold rGraphicP; rw [if_neg h0, if_neg h1, if_pos h2, if_pos h48]
      rw [e]
      have CG := Lib.hid (gather_any w q Bo O S al b h (by omega))
      have g48 : ((b.toNat : Int) < 48) = True := by simp; omega
      clear h hl h10 CT CP CB h0 h1 h2 e g0 g1 h48
      go_enter Tryd.func55, Tryd.ntmps55
      go_wp2_with (go_at_call 71; refine (CG.out).mono ?_; rintro e w' ⟨rfl, hp', ht'⟩; have HP := Lib.hid hp'; have HT := Lib.hid ht'; clear hp' ht')
      go_end0
      exact ⟨rfl, by rw [List.append_nil]; exact HP.out, HT.out⟩
    · have e : rGraphicP S b = ({ S with st := 0 }, [escA b S.inter]) := by unfold rGraphicP; rw [if_neg h0, if_neg h1, if_pos h2, if_neg h48]
      rw [e]
      have g48 : ((b.toNat : Int) < 48) = False := by simp; omega
      clear h hl h10 CP CB h0 h1 h2 e g0 g1 h48
      go_enter Tryd.func55, Tryd.ntmps55
      go_wp2_with (go_at_call 46; refine (CT.out).mono ?_; rintro e w' ⟨rfl, hp', ht'⟩; have HP := Lib.hid hp'; have HT := Lib.hid ht'; have k0 := hp'.c0; have k1 := hp'.frozen 0; clear hp' ht')
      go_end0
      exact ⟨rfl, HS.out _ _ _ 0 HP.out, HT.out.trans (mine_set _ q O 0 _)⟩
  have g2 : ((S.st : Int) == 2) = false := beq_eq_false_iff_ne.2 (by omega)
  have e : rGraphicP S b = rSeqP S b := by unfold rGraphicP; rw [if_neg h0, if_neg h1, if_neg h2]
  rw [e]
  have CQ := Lib.hid (rseq_any w q Bo O S al b h hl (by omega) h10)
  clear h hl h10 CT CP CB h0 h1 h2 e
  go_enter Tryd.func55, Tryd.ntmps55
  go_wp2_with (go_at_call 72; refine (CQ.out).mono ?_; rintro e w' ⟨rfl, hp', ht'⟩; have HP := Lib.hid hp'; have HT := Lib.hid ht'; clear hp' ht')
  go_end0
  exact ⟨rfl, HP.out, HT.out⟩
end
end Go.Proofs.YtjoiagaadofndaaDoor
