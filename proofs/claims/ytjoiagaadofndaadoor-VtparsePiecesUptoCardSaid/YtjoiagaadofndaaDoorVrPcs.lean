/-
  The law on pieces holds.
  The law on pieces holds: its walk.
  An argument that is a slice of bools.
-/
import Derived.Test.YtjoiagaadofndaaDoorVrMany
import Derived.Test.YtjoiagaadofndaaDoorVpStr
import Derived.Laws.Rows
import Derived.Laws.Tables
import Derived.Test.YtjoiagaadofndaaDoorVpArgRows
import Derived.Deep.Grids
namespace Go.Proofs.YtjoiagaadofndaaDoor
section
open Go.RowKit Go.Shelf Go.Lib
attribute [local go_sem] Oper.semAt_some

theorem parser_size : (Tryd.prog.info? 64).map (·.size) = some 1055 := by kernel_rfl
theorem row_one (R : Raw) : R.row.toArray.all (·.oneCell') = true := by
  rw [← Array.all_toList]
  simp only [List.all_eq_true]
  intro v hv
  have hv : v ∈ R.row := by simpa using hv
  simp only [Raw.row, Raw.hd, Raw.mid, List.mem_append, List.mem_cons, List.not_mem_nil, or_false] at hv
  rcases hv with hv | hv | hv | hv | hv
  · rcases hv with rfl | rfl | rfl | rfl | rfl | rfl | rfl | rfl | rfl <;> rfl
  · exact intVals_one _ v hv
  · rcases hv with rfl | rfl | rfl | rfl | rfl <;> rfl
  · exact byteVals_one _ v hv
  · subst hv; rfl
set_option maxRecDepth 1000000 in
set_option maxHeartbeats 2000000 in
theorem reset_any (w : World) (g : Nat) (S : PS) (h : ParAt w g S) : Calls Tryd.prog 22 #[.pointer (some ⟨g, 0, none⟩)] w fun e w' => e = .returned (.tuple #[]) ∧ ParAt w' g ps0 ∧ Touch (Only g) w w' := by
  have CU := Lib.hid (usableP_any w g S h)
  have CN := Lib.hid (new_any w)
  have HG := Lib.hid h.lt
  obtain ⟨R0, ok0, hR0, _⟩ := h
  have HR0 := Lib.hid hR0
  have HS0 : Hid (R0.row.toArray.size = 1055) := Lib.hid (by rw [List.size_toArray, row_length ok0])
  clear ok0 hR0
  unfold RawAt at HR0
  generalize R0.row.toArray = C0 at *
  go_enter Tryd.func22, Tryd.ntmps22
  go_wp2_with (first
    | (go_at_call 34; refine (CU.out).mono ?_; rintro e w' ⟨rfl, rfl⟩)
    | (go_at_call 16; refine (CN.out).mono ?_; rintro e w1 ⟨q, rfl, hp1, hq1, hb1⟩; obtain ⟨R, ok, hR, hPS⟩ := hp1; unfold RawAt at hR; have HR := Lib.hid hR; have HOK := Lib.hid ok; have HPS := Lib.hid hPS; have HS : Hid (R.row.toArray.size = 1055) := Lib.hid (by rw [List.size_toArray, row_length ok]); have HONE := Lib.hid (row_one R); have HB1 := Lib.hid hb1; have HR1 := Lib.hid ((hb1.block g HG.out).trans HR0.out); obtain ⟨C, hC⟩ : ∃ C, R.row.toArray = C := ⟨_, rfl⟩; have HC := Lib.hid hC; rw [hC] at HR HS HONE; clear hR ok hPS hb1 hq1 hC)
    | (refine wpList_load_row (by rfl) 64 _ (by rfl) q (by rfl) _ C _ _ HR.out Tryd.underlying64 rfl (by rw [HS.out]; exact parser_size) ?_)
    | (refine wpList_store_row (by rfl) 64 _ _ (by rfl) g C (by rfl) (by rfl) _ C0 HR1.out (by rw [HS.out]; exact parser_size) (by rw [HS.out]; exact HS0.out) HONE.out ?_))
  go_end0
  refine ⟨rfl, ⟨R, HOK.out, ?_, HPS.out⟩, (Touch.of_below HB1.out).trans ?_⟩
  · unfold RawAt
    rw [HC.out]
    exact setRow_heap _ g _ _ _ _ HR1.out
  · exact ⟨rfl, rfl, rfl, by simp [World.setRow], fun k _ hk => setRow_other _ g k _ hk⟩
/-- bools as values -/
def boolVals (l : List Bool) : List Value := l.map Value.bool
/-- between two pieces -/
structure PcI (w : World) (g n : Nat) (v6 i : Value) (wr : World) (k q : Nat) (O : Nat → Prop) (P S : PS) (hv pv ov : Value) : Prop where
  le : k ≤ n
  i : i = .int .i64 k
  v6 : v6 = .pointer (some ⟨q, 0, none⟩)
  p : ParAt wr g P
  core : RpCore wr q O S hv pv ov
  tied : Tied P S
  qg : q ≠ g
  og : ¬ O g
  wq : w.heap.size ≤ q
  wg : w.heap.size ≤ g
  wo : ∀ k, O k → w.heap.size ≤ k
  below : Below w.heap.size w wr
def PcR (w : World) (g n : Nat) (v6 i : Value) (wr : World) : Prop := ∃ k q O P S hv pv ov, PcI w g n v6 i wr k q O P S hv pv ov
theorem RpCore.only {w w' : World} {q g : Nat} {O : Nat → Prop} {S : PS} {hv pv ov : Value} (h : RpCore w q O S hv pv ov) (ht : Touch (Only g) w w') (hq : q ≠ g) (hO : ¬ O g) : RpCore w' q O S hv pv ov :=
  h.same (ht.block q h.lt fun e => hq e) (fun k hk => ht.block k (h.old k hk) fun e => hO (by have e' : k = g := e; rw [← e']; exact hk)) ht.size
theorem RpCore.below {w w' : World} {q : Nat} {O : Nat → Prop} {S : PS} {hv pv ov : Value} (h : RpCore w q O S hv pv ov) (hb : Below w.heap.size w w') : RpCore w' q O S hv pv ov :=
  h.same (hb.block q h.lt) (fun k hk => hb.block k (h.old k hk)) hb.size
/-- a piece was taken by both -/
theorem PcI.next {w wr w1 w2 w3 : World} {g n k q : Nat} {O : Nat → Prop} {P S : PS} {v6 i hv pv ov hv' pv' v2 : Value} {xs : List (ActD × Value)} {x : List UInt8} (h : PcI w g n v6 i wr k q O P S hv pv ov) (hp : ParAt w1 g (putPS P x).1) (ht1 : Touch (Only g) wr w1) (hi : RpIn w2 q w1.heap.size (fun k => O k ∨ w1.heap.size ≤ k) (rPutP S x).1 hv' pv' v2 xs) (ht2 : Touch (Mine q O) w1 w2) (hb3 : Below w2.heap.size w2 w3) :
    ParAt w3 g (putPS P x).1 ∧ RpCore w3 q (OwnOf hv' pv') (rPutP S x).1 hv' pv' v2 ∧ ¬ OwnOf hv' pv' g ∧ (∀ k, OwnOf hv' pv' k → w.heap.size ≤ k) ∧ Below w.heap.size w w3 := by
  have hg1 := h.p.lt
  have hg : g < w1.heap.size := hp.lt
  have hO : ∀ k, OwnOf hv' pv' k → O k ∨ w1.heap.size ≤ k := fun k t => t.elim (hi.ownH k) (hi.ownP k)
  have hw1 : w.heap.size ≤ w1.heap.size := Nat.le_trans h.below.size ht1.size
  refine ⟨(hp.same (ht2.block g hg fun t => t.elim (fun e => h.qg e.symm) h.og)).below hb3, hi.core.below hb3, fun t => (hO g t).elim h.og fun e => by omega, fun k t => (hO k t).elim (h.wo k) fun e => by omega, ?_⟩
  have b2 : Below w.heap.size w1 w2 := ht2.below hw1 fun k t => t.elim (fun e => by have := h.wq; omega) (h.wo k)
  exact (((only_below h.below ht1 h.wg).trans b2).trans (hb3.mono (Nat.le_trans hw1 ht2.size)))
end

section
open Go.RowKit Go.Shelf Go.Lib
attribute [local go_sem] Oper.semAt_some

set_option maxRecDepth 1000000 in
set_option maxHeartbeats 8000000 in
theorem pieces_walk (w : World) (ps : List (List UInt8)) (fs : List Bool) (A0 U : Option Addr) (n c0 m cu : Nat) (hT : Tabs w) (hv : HoldsRows w (.slice A0 n c0) ps) (hu : Holds1 w (.slice U m cu) (boolVals fs)) (hm : m = fs.length) (hm2 : m ≤ 9223372036854775807) (hlen : ps.flatten.length + ps.length ≤ 1048576) :
    Calls Tryd.prog 4 #[.slice A0 n c0, .slice U m cu] w fun e w' => e = .returned (.bool true) ∧ Below w.heap.size w w' := by
  obtain ⟨A', c', e0, hrows⟩ := hv
  injection e0 with e1 e2 e3
  subst e1 e3
  have HR := Lib.hid hrows
  have HN := Lib.hid e2
  have HM := Lib.hid hm
  have HM2 := Lib.hid hm2
  have HU := Lib.hid hu
  have HLEN := Lib.hid hlen
  have HTS := Lib.hid hT.size
  have CN := Lib.hid fun W => new_any W
  have CRN := Lib.hid fun W => rnew_any W
  have CL := Lib.hid fun W (hW : Below w.heap.size w W) => live_any W (hT.below hW)
  have CP : Hid (∀ W g S bs bv, ParAt W g S → w.heap.size ≤ g → Below w.heap.size w W → HoldsOff W g bv bs → bs.length ≤ 200000000 → Calls Tryd.prog 18 #[.pointer (some ⟨g, 0, none⟩), bv] W (PutAPost W g S bs)) := Lib.hid fun W g S bs bv hp hg hb hh hl => putP_any W g S bs bv (hT.below hb) hp (Nat.le_trans hT.size hg) hh hl
  have CQ := Lib.hid fun W q O P S hv pv ov bs bv (h : RpCore W q O S hv pv ov) (ht : Tied P S) (hb : HoldsApart W (Mine q O) bv bs) (hl : bs.length ≤ 200000000) => rput_any W q O P S hv pv ov bs bv h ht hb hl
  clear hrows e2 hm hm2 hu hlen hT
  unfold LivePost at CL
  unfold PutAPost at CP
  unfold RPutPost at CQ
  go_enter Tryd.func4, Tryd.ntmps4
  go_wp2_with (first
    | (go_at_call 16; refine (CN.out _).mono ?_; rintro e w1 ⟨g, rfl, hp1, hg1, hb1⟩; have HP1 := Lib.hid hp1; have HG := Lib.hid hg1; have HB1 := Lib.hid hb1; clear hp1 hg1 hb1)
    | (go_at_call 17; refine (CRN.out _).mono ?_; rintro e w2 ⟨rfl, hc2, hb2⟩; have HP2 := Lib.hid (HP1.out.below hb2); have HC2 := Lib.hid hc2; have HB2 := Lib.hid (HB1.out.trans (hb2.mono HB1.out.size)); clear hc2 hb2)
    | (go_at_call 12; refine (CL.out _ HB2.out).mono ?_; rintro e w3 ⟨rfl, hb3⟩; have HP3 := Lib.hid (HP2.out.below hb3); have HC3 := Lib.hid (HC2.out.below hb3); have HB3 := Lib.hid (HB2.out.trans (hb3.mono HB2.out.size)); clear hb3))
  go_loopw [6, 19] (fun v6 i wr => PcR w g n v6 i wr) (fun _ i _ => n - (RowKit.intOf i).toNat)
  case atStart => exact ⟨0, w1.heap.size, noBlocks, ps0, ps0, _, _, _, Nat.zero_le _, rfl, rfl, HP3.out, HC3.out, tied0, by have := HP1.out.lt; omega, fun h => h, HB1.out.size, HG.out, fun k h => h.elim, HB3.out⟩
  case round =>
    obtain ⟨k, q, O, P, S, hv, pv, ov, hI⟩ := hrel
    obtain rfl := hI.i
    obtain rfl := hI.v6
    by_cases hlt : k < n
    · obtain ⟨x, hx⟩ : ∃ x, ps[k]? = some x := ⟨_, List.getElem?_eq_getElem (by rw [← HN.out]; exact hlt)⟩
      have hkl : k < ps.length := by rw [← HN.out]; exact hlt
      have hxe : ps[k] = x := by
        have := List.getElem?_eq_getElem hkl
        rw [hx] at this
        exact (Option.some.inj this).symm
      obtain ⟨b, off, rfl, hbl, hrow⟩ := HR.out (by omega)
      obtain ⟨Ak, ck, hck, hhk⟩ := hrow k hkl
      rw [hxe] at hck hhk
      have hcell := (hI.below.cell (p := ⟨b, off + k, none⟩) hbl).trans hck
      have hpl := piece_le ps hx
      have hxl : x.length ≤ 2000000 := by have := HLEN.out; omega
      have hal := hI.tied.len x
      have HAL : Hid ((putPS P x).2.length ≤ 1000000000) := Lib.hid (by rw [(hI.tied.put x).2]; omega)
      have HALIKE := Lib.hid (hI.tied.put x)
      have CP1 := Lib.hid (CP.out wr g P x (.slice Ak x.length ck) hI.p hI.wg hI.below (HoldsOff.of hhk hI.below hI.wg) (by omega))
      have CQ1 : Hid (∀ W, Touch (Only g) wr W → Calls Tryd.prog 19 #[.pointer (some ⟨q, 0, none⟩), .slice Ak x.length ck] W fun e w' => ∃ hv pv v xs, e = .returned v ∧ xs.map Prod.fst = (rPutP S x).2 ∧ RpIn w' q W.heap.size (fun k => O k ∨ W.heap.size ≤ k) (rPutP S x).1 hv pv v xs ∧ Touch (Mine q O) W w') := Lib.hid fun W hW =>
        CQ.out W q O P S hv pv ov x _ (hI.core.only hW hI.qg hI.og) hI.tied ⟨hhk.below (only_below hI.below hW hI.wg), fun hl b off n c e t => by
          obtain ⟨A, c', e', _, hcl⟩ := hhk
          obtain ⟨b0, off0, rfl, hlt0, _⟩ := hcl (by rw [byteVals_length]; exact hl)
          rw [e'] at e
          injection e with e1
          injection e1 with e1
          injection e1 with e1
          have h1 := hI.wq
          rcases t with t | t
          · omega
          · have := hI.wo b t; omega⟩ (by omega)
      have HI := Lib.hid hI
      have i1 : (0 : Int) ≤ (k : Int) := by omega
      have i2 : ((k : Int) < (n : Int)) = True := by simp; exact hlt
      have hwk : wrap64 ((k : Int) + 1) = (k : Int) + 1 := by have := HLEN.out; unfold wrap64; omega
      have HLT := Lib.hid hlt
      have CG1 : Hid (∀ W, ParAt W g (putPS P x).1 → Calls Tryd.prog 20 #[.pointer (some ⟨g, 0, none⟩)] W fun e w' => e = .returned (.bool (groundP (putPS P x).1)) ∧ W = w') := Lib.hid fun W h => ground_of W g _ h
      have CG2 : Hid (∀ W O' hv' pv' ov', RpCore W q O' (rPutP S x).1 hv' pv' ov' → Calls Tryd.prog 21 #[.pointer (some ⟨q, 0, none⟩)] W fun e w' => e = .returned (.bool (groundP (putPS P x).1)) ∧ W = w') := Lib.hid fun W O' hv' pv' ov' h => (rground_any W q O' _ hv' pv' ov' h).mono (by rintro e w' ⟨rfl, rfl⟩; exact ⟨by rw [HALIKE.out.1.ground], rfl⟩)
      clear hI hrow hck hhk hpl hal hxl hlt hxe hbl hx hkl
      generalize hgb : groundP (putPS P x).1 = gb at *
      clear hgb
      by_cases hj : k < m ∧ fs[k]? = some true
      · have hkm : ((k : Int) < (m : Int)) = True := by simp; exact hj.1
        have hfc : ∃ kb ko, U = some ⟨kb, ko, none⟩ ∧ kb < w.heap.size ∧ w.cell? ⟨kb, ko + k, none⟩ = some (.bool true) := by
          obtain ⟨Au, cu', eu, _, hcu⟩ := HU.out
          injection eu with e1 e2 e3
          subst e1
          obtain ⟨kb, ko, rfl, hkb, hcell⟩ := hcu (by rw [show (boolVals fs).length = fs.length by simp [boolVals]]; have := HM.out; omega)
          exact ⟨kb, ko, rfl, hkb, hcell k _ (by simp [boolVals, hj.2])⟩
        obtain ⟨kb, ko, rfl, hkb, hfc⟩ := hfc
        have HF : Hid (∀ W, Below w.heap.size w W → W.cell? ⟨kb, ko + k, none⟩ = some (.bool true)) := Lib.hid fun W hW => (hW.cell (p := ⟨kb, ko + k, none⟩) hkb).trans hfc
        have CX := Lib.hid fun W S (h : ParAt W g S) => reset_any W g S h
        have CG3 := Lib.hid fun W (h : ParAt W g ps0) => ground_of W g ps0 h
        clear hfc hj hkb
        have tok1 : True := trivial
        go_wp2_with (first
          | (go_at_call 18; refine (CP1.out).mono ?_; rintro e w4 ⟨v4, rfl, hr4, hp4, ht4⟩; have HR4 := Lib.hid hr4; have HP4 := Lib.hid hp4; have HT4 := Lib.hid ht4; clear hr4 hp4 ht4)
          | (go_at_call 19; refine (CQ1.out _ HT4.out).mono ?_; rintro e w5 ⟨hv5, pv5, v5, xs5, rfl, e5, hi5, ht5⟩; have HI5 := Lib.hid hi5; have HE5 := Lib.hid (e5.trans HALIKE.out.2.symm); have HT5 := Lib.hid ht5; have HR5 := Lib.hid (HR4.out.touch ht5 fun k t => t.elim (fun e => by rw [e]; exact HI.out.core.lt) (HI.out.core.old k)); obtain ⟨A5, cp5, hv5', _⟩ := own_form hi5.out; subst hv5'; clear hi5 e5 ht5)
          | (go_at_call 13; refine (refSame_eq _ _ _ _ _ _ HR5.out (HI5.out.actRow HE5.out) HAL.out).mono ?_; rintro e w6 ⟨rfl, hb6⟩; have HN6 := Lib.hid (HI.out.next HP4.out HT4.out HI5.out HT5.out hb6); clear hb6)
          | (go_at_call 20; have tk := tok1; refine (CG1.out _ HN6.out.1).mono ?_; rintro e w' ⟨rfl, rfl⟩; clear tok1 tk)
          | (go_at_call 21; refine (CG2.out _ _ _ _ _ HN6.out.2.1).mono ?_; rintro e w' ⟨rfl, rfl⟩; have k6 := HF.out _ HN6.out.2.2.2.2)
          | (go_at_call 22; refine (CX.out _ _ HN6.out.1).mono ?_; rintro e w7 ⟨rfl, hp7, ht7⟩; have HP7 := Lib.hid hp7; have HB7 := Lib.hid (only_below HN6.out.2.2.2.2 ht7 HI.out.wg); clear hp7 ht7)
          | (go_at_call 17; refine (CRN.out _).mono ?_; rintro e w8 ⟨rfl, hc8, hb8⟩; have HP8 := Lib.hid (HP7.out.below hb8); have HC8 := Lib.hid hc8; have HB8 := Lib.hid (HB7.out.trans (hb8.mono HB7.out.size)); clear hc8 hb8)
          | (go_at_call 20; refine (CG3.out _ HP8.out).mono ?_; rintro e w' ⟨rfl, rfl⟩))
        go_roundw
        case rel => exact ⟨k + 1, w7.heap.size, noBlocks, ps0, ps0, _, _, _, HLT.out, next_val hwk, rfl, HP8.out, HC8.out, tied0, by have := HP7.out.lt; omega, fun h => h, HB7.out.size, HI.out.wg, fun k h => h.elim, HB8.out⟩
        case measure => exact measure_lt HLT.out hwk
      · have hcase : ¬ k < m ∨ (k < m ∧ fs[k]? = some false) := by
          by_cases h1 : k < m
          · refine .inr ⟨h1, ?_⟩
            have h2 : k < fs.length := by have := HM.out; omega
            rw [List.getElem?_eq_getElem h2] at hj ⊢
            cases hq : fs[k] with
            | false => rfl
            | true => exact absurd ⟨h1, by rw [hq]⟩ hj
          · exact .inl h1
        have tok1 : True := trivial
        rcases hcase with h1 | h1
        · have hkm : ((k : Int) < (m : Int)) = False := by simp; omega
          clear h1 hj
          go_wp2_with (first
            | (go_at_call 18; refine (CP1.out).mono ?_; rintro e w4 ⟨v4, rfl, hr4, hp4, ht4⟩; have HR4 := Lib.hid hr4; have HP4 := Lib.hid hp4; have HT4 := Lib.hid ht4; clear hr4 hp4 ht4)
            | (go_at_call 19; refine (CQ1.out _ HT4.out).mono ?_; rintro e w5 ⟨hv5, pv5, v5, xs5, rfl, e5, hi5, ht5⟩; have HI5 := Lib.hid hi5; have HE5 := Lib.hid (e5.trans HALIKE.out.2.symm); have HT5 := Lib.hid ht5; have HR5 := Lib.hid (HR4.out.touch ht5 fun k t => t.elim (fun e => by rw [e]; exact HI.out.core.lt) (HI.out.core.old k)); obtain ⟨A5, cp5, hv5', _⟩ := own_form hi5.out; subst hv5'; clear hi5 e5 ht5)
            | (go_at_call 13; refine (refSame_eq _ _ _ _ _ _ HR5.out (HI5.out.actRow HE5.out) HAL.out).mono ?_; rintro e w6 ⟨rfl, hb6⟩; have HN6 := Lib.hid (HI.out.next HP4.out HT4.out HI5.out HT5.out hb6); clear hb6)
            | (go_at_call 20; have tk := tok1; refine (CG1.out _ HN6.out.1).mono ?_; rintro e w' ⟨rfl, rfl⟩; clear tok1 tk)
            | (go_at_call 21; refine (CG2.out _ _ _ _ _ HN6.out.2.1).mono ?_; rintro e w' ⟨rfl, rfl⟩))
          go_roundw
          case rel => exact ⟨k + 1, q, _, _, _, _, _, _, HLT.out, next_val hwk, rfl, HN6.out.1, HN6.out.2.1, HALIKE.out.1, HI.out.qg, HN6.out.2.2.1, HI.out.wq, HI.out.wg, HN6.out.2.2.2.1, HN6.out.2.2.2.2⟩
          case measure => exact measure_lt HLT.out hwk
        · have hkm : ((k : Int) < (m : Int)) = True := by simp; exact h1.1
          have hfc : ∃ kb ko, U = some ⟨kb, ko, none⟩ ∧ kb < w.heap.size ∧ w.cell? ⟨kb, ko + k, none⟩ = some (.bool false) := by
            obtain ⟨Au, cu', eu, _, hcu⟩ := HU.out
            injection eu with e1 e2 e3
            subst e1
            obtain ⟨kb, ko, rfl, hkb, hcell⟩ := hcu (by rw [show (boolVals fs).length = fs.length by simp [boolVals]]; have := HM.out; omega)
            exact ⟨kb, ko, rfl, hkb, hcell k _ (by simp [boolVals, h1.2])⟩
          obtain ⟨kb, ko, rfl, hkb, hfc⟩ := hfc
          have HF : Hid (∀ W, Below w.heap.size w W → W.cell? ⟨kb, ko + k, none⟩ = some (.bool false)) := Lib.hid fun W hW => (hW.cell (p := ⟨kb, ko + k, none⟩) hkb).trans hfc
          clear h1 hj hfc hkb
          go_wp2_with (first
            | (go_at_call 18; refine (CP1.out).mono ?_; rintro e w4 ⟨v4, rfl, hr4, hp4, ht4⟩; have HR4 := Lib.hid hr4; have HP4 := Lib.hid hp4; have HT4 := Lib.hid ht4; clear hr4 hp4 ht4)
            | (go_at_call 19; refine (CQ1.out _ HT4.out).mono ?_; rintro e w5 ⟨hv5, pv5, v5, xs5, rfl, e5, hi5, ht5⟩; have HI5 := Lib.hid hi5; have HE5 := Lib.hid (e5.trans HALIKE.out.2.symm); have HT5 := Lib.hid ht5; have HR5 := Lib.hid (HR4.out.touch ht5 fun k t => t.elim (fun e => by rw [e]; exact HI.out.core.lt) (HI.out.core.old k)); obtain ⟨A5, cp5, hv5', _⟩ := own_form hi5.out; subst hv5'; clear hi5 e5 ht5)
            | (go_at_call 13; refine (refSame_eq _ _ _ _ _ _ HR5.out (HI5.out.actRow HE5.out) HAL.out).mono ?_; rintro e w6 ⟨rfl, hb6⟩; have HN6 := Lib.hid (HI.out.next HP4.out HT4.out HI5.out HT5.out hb6); clear hb6)
            | (go_at_call 20; have tk := tok1; refine (CG1.out _ HN6.out.1).mono ?_; rintro e w' ⟨rfl, rfl⟩; clear tok1 tk)
            | (go_at_call 21; refine (CG2.out _ _ _ _ _ HN6.out.2.1).mono ?_; rintro e w' ⟨rfl, rfl⟩; have k6 := HF.out _ HN6.out.2.2.2.2))
          go_roundw
          case rel => exact ⟨k + 1, q, _, _, _, _, _, _, HLT.out, next_val hwk, rfl, HN6.out.1, HN6.out.2.1, HALIKE.out.1, HI.out.qg, HN6.out.2.2.1, HI.out.wq, HI.out.wg, HN6.out.2.2.2.1, HN6.out.2.2.2.2⟩
          case measure => exact measure_lt HLT.out hwk
    · have hkn : k = n := by have := hI.le; omega
      have HB := Lib.hid hI.below
      have i2 : ((k : Int) < (n : Int)) = False := by simp; omega
      clear hI hkn hlt
      go_wp2
      go_ret
      exact ⟨rfl, HB.out⟩
end

section
open Go.ChangeShapes Go.WideShapes Go.ChangeAt Go.RowKit

/-- an argument that is a slice of bools -/
theorem bools_of_slice {H : Type} {enc : TypeId × Value → H} {W : World} {a : Option Addr} {len cap : Nat} {d : DataW H} {p : List MemPlace}
    (h : DataW.Trod enc Tryd.prog W 0 (fun _ => true) true 29 (.slice a len cap) d p) :
    ∃ fs : List Bool, fs.length = len ∧ len ≤ 9223372036854775807 ∧ Holds1 W (.slice a len cap) (boolVals fs) := by
  obtain ⟨fuel, hf⟩ := h
  rcases Go.Deep.open_bools Tryd.underlying29 Tryd.underlying4 (by kernel_rfl) hf with ⟨hcs, hx⟩ | ⟨x, l, c, B, hcs, _, hl, hm, hx, hcell⟩
  · simp [Value.cells] at hcs
    obtain ⟨rfl, rfl, rfl⟩ := hcs
    exact ⟨[], rfl, by omega, ⟨none, 0, rfl, ⟨by simp [boolVals], fun _ => rfl⟩, fun h => by simp [boolVals] at h⟩⟩
  · simp [Value.cells] at hcs
    obtain ⟨rfl, rfl, rfl⟩ := hcs
    have hlen : (boolVals ((List.range len).map B)).length = len := by simp [boolVals]
    refine ⟨(List.range len).map B, by simp, by unfold maxLen at hm; omega, ⟨some x, cap, by rw [hlen], ⟨by rw [hlen]; exact hl, fun h => by cases h⟩, fun hp => ?_⟩⟩
    rw [hlen] at hp
    have hc0 := hcell 0 (by omega)
    obtain ⟨b, off, spot⟩ := x
    have hspot : spot = none := by simpa [Addr.add] using World.cell?_spot hc0
    subst hspot
    have hadd : ∀ k, (⟨b, off, none⟩ : Addr).add k = ⟨b, off + k, none⟩ := fun k => by
      unfold Addr.add
      split
      · next e => subst e; rfl
      · rfl
    refine ⟨b, off, rfl, block_lt_of_cell (by rw [hadd] at hc0; exact hc0), fun j u hu => ?_⟩
    have hj : j < len := by
      have := (List.getElem?_eq_some_iff.1 hu).1
      rwa [hlen] at this
    rw [← hadd, hcell j (by omega), ← hu]
    simp [boolVals, hj]
end
end Go.Proofs.YtjoiagaadofndaaDoor
