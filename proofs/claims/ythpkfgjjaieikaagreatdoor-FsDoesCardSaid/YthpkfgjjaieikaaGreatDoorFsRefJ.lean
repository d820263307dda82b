/-
  What the document's List returns and changes. Nothing is assumed.
-/
import Derived.Test.YthpkfgjjaieikaaGreatDoorFsRefE
namespace Go.Proofs.YthpkfgjjaieikaaGreatDoor
open Go.RowKit Go.Shelf Go.Lib Go.Maps Go.Sort
attribute [local go_sem] Oper.semAt_some

/-- between two rounds of the search for a name's place -/
def NameI (l : List (List UInt8)) (n : List UInt8) (i : Value) : Prop := ∃ k : Nat, k ≤ l.length ∧ i = .int .i64 k ∧ ((l.take k).all fun x => Op.bytesLess x n) = true
theorem nahead_at {l : List (List UInt8)} {n : List UInt8} {k : Nat} (hk : k ≤ l.length) (h : ((l.take k).all fun x => Op.bytesLess x n) = true) (hn : ∀ x, l[k]? = some x → Op.bytesLess x n = false) : aheadN l n = k := by
  unfold aheadN
  have hlow : ∀ j (hj : j < l.length), j < k → Op.bytesLess l[j] n = true := fun j hj hjk => by
    rw [List.all_eq_true] at h
    exact h _ (by rw [List.mem_take_iff_getElem]; exact ⟨j, by omega, rfl⟩)
  rcases Nat.lt_or_ge k l.length with hlt | hge
  · rw [List.findIdx_eq hlt]
    refine ⟨by rw [hn _ (List.getElem?_eq_getElem hlt)]; rfl, fun j hj => ?_⟩
    rw [hlow j (by omega) hj]
    rfl
  · obtain rfl : k = l.length := by omega
    rw [List.findIdx_eq_length]
    intro x hx
    obtain ⟨j, hj, rfl⟩ := List.mem_iff_getElem.1 hx
    rw [hlow j hj hj]
    rfl
theorem texts_at {w : World} {base cap : Nat} {A : Option Addr} {l : List (List UInt8)} (h : w.ownsRow base 9 1 (.slice A l.length cap) l.length (l.map str)) : ∀ k x, l[k]? = some x → ∃ g, A = some ⟨g, 0, none⟩ ∧ w.cell? ⟨g, k, none⟩ = some (str x) := by
  intro k x hx
  have hk : k < l.length := (List.getElem?_eq_some_iff.1 hx).1
  obtain ⟨g, off, e, _, hc⟩ := (own_head h (Nat.le_refl _)).cells (by omega)
  rcases h.2 with ⟨e0, _⟩ | ⟨g', cap', cur, e1, _⟩
  · injection e0 with e0
    rw [e0] at e
    cases e
  · injection e1 with e1
    rw [e1] at e
    injection e with e
    injection e with e2 e3
    subst e2 e3
    refine ⟨g', e1, ?_⟩
    have := hc k (str x) (by rw [Nat.mul_one, List.take_of_length_le (by simp)]; simp [hx])
    simpa using this
def InsPost (w : World) (base : Nat) (l : List (List UInt8)) (e : Ending) (w' : World) : Prop :=
  ∃ u, e = .returned u ∧ w'.ownsRow base 9 1 u l.length (l.map str) ∧ Below w.heap.size w w'

set_option maxRecDepth 100000 in
set_option maxHeartbeats 4000000 in
theorem insert_any (w : World) (base : Nat) (v : Value) (l : List (List UInt8)) (n : List UInt8) (h : w.ownsRow base 9 1 v l.length (l.map str)) (hb : base ≤ w.heap.size) (hl : l.length ≤ 5000) :
    Calls Tryz.prog 166 #[v, str n] w (InsPost w base (insN l n)) := by
  obtain ⟨A, cap, rfl, hcap, _⟩ := own_form h
  have hat := texts_at h
  have HAT := Lib.hid hat
  have H := Lib.hid h
  have HB := Lib.hid hb
  clear hat h hb
  go_enter Tryz.func166, Tryz.ntmps166
  go_wp2_with fail
  go_loop [5] (fun i => NameI l n i) (fun i => l.length - (intOf i).toNat)
  case atStart => exact ⟨0, Nat.zero_le _, rfl, rfl⟩
  case round =>
    obtain ⟨k, hk, rfl, hall⟩ := hrel
    have HALL := Lib.hid hall
    clear hall
    by_cases hgo : ∃ x, l[k]? = some x ∧ Op.bytesLess x n = true
    · obtain ⟨x, hxk, hless⟩ := hgo
      have hlt : k < l.length := (List.getElem?_eq_some_iff.1 hxk).1
      obtain ⟨g, rfl, cp⟩ := HAT.out k x hxk
      have HXK := Lib.hid hxk
      have HLESS := Lib.hid hless
      clear hxk
      go_wp2_with fail
      go_round
      case rel => exact ⟨k + 1, by omega, by go_num, by rw [List.take_add_one, HXK.out, List.all_append, HALL.out]; simp [HLESS.out]⟩
      case measure => simp [intOf]; omega
    · have hah : aheadN l n = k := nahead_at hk HALL.out fun x hxk => by
        cases hb : Op.bytesLess x n with
        | false => rfl
        | true => exact absurd ⟨x, hxk, hb⟩ hgo
      have HGO : Hid (∀ x, l[k]? = some x → Op.bytesLess x n = false) := Lib.hid fun x hxk => by
        cases hb : Op.bytesLess x n with
        | false => rfl
        | true => exact absurd ⟨x, hxk, hb⟩ hgo
      clear hgo
      by_cases heq : l[k]? = some n
      · have hin : insN l n = l := by unfold insN; rw [hah, if_pos heq]
        have HIN := Lib.hid hin
        have hlt : k < l.length := (List.getElem?_eq_some_iff.1 heq).1
        have hless := HGO.out n heq
        obtain ⟨g, rfl, cp⟩ := HAT.out k n heq
        clear heq hah hin
        go_wp2_with fail
        go_ret
        rw [HIN.out]
        exact ⟨_, rfl, H.out, Below.refl _ _⟩
      · have hin : insN l n = l.take k ++ n :: l.drop k := by unfold insN; rw [hah, if_neg heq]
        have hnone := World.ownsRow_nil w base 9 1
        have hrow := H.out
        have hb := HB.out
        obtain ⟨v1, w1, run1, own1, g1, _⟩ := append_texts w w.heap.size (.slice none 0 0) [] (World.ownsRow_nil w w.heap.size 9 1) (l.take k) (m := k) (by rw [List.length_take]; omega) (by have := own_head hrow hk; rwa [Nat.mul_one, ← List.map_take] at this) (by rw [List.length_take]; simp; omega) (Nat.le_refl _) 80
        rw [List.nil_append] at own1
        have B1 : Below w.heap.size w w1 := grown_below g1 (Nat.le_refl _) (fun k e => by cases e)
        obtain ⟨wa, hwa⟩ : ∃ wa, wa = w1.alloc (.cells #[str n] 9) := ⟨_, rfl⟩
        have Ba : Below w.heap.size w wa := by rw [hwa]; exact B1.alloc B1.size _
        have owna : wa.ownsRow w.heap.size 9 1 v1 (l.take k).length ((l.take k).map str) := by rw [hwa]; exact own1.alloc _
        have sa : Src wa 1 (some ⟨w1.heap.size, 0, none⟩) 1 1 ([n].map str) := by
          refine ⟨rfl, (fun e => by cases e), fun _ => ⟨w1.heap.size, 0, rfl, by rw [hwa]; simp, fun j u hu => ?_⟩⟩
          rw [Nat.zero_add, hwa, cell_of_row _ _ j _ _ (0, 0) (World.alloc_heap_new w1 _)]
          simpa using hu
        obtain ⟨v2, w2, run2, own2, g2, _⟩ := append_texts wa w.heap.size v1 (l.take k) owna [n] (m := 1) rfl sa (by rw [List.length_take]; simp; omega) Ba.size 80
        have B2 : Below w.heap.size w w2 := Ba.trans (grown_below g2 Ba.size fun k e => (owna.lt k e).1)
        have s3 := (own_tail hrow (i := k) hk).below B2
        rw [Nat.mul_one, ← List.map_drop] at s3
        obtain ⟨v3, w3, run3, own3, g3, _⟩ := append_texts w2 w.heap.size v2 (l.take k ++ [n]) own2 (l.drop k) (m := l.length - k) (by rw [List.length_drop]) s3 (by simp; omega) B2.size 80
        have B3 : Below w.heap.size w w3 := B2.trans (grown_below g3 B2.size fun k e => (own2.lt k e).1)
        have hmid : l.take k ++ [n] ++ l.drop k = l.take k ++ n :: l.drop k := by simp
        rw [hmid, ← hin] at own3
        have HO3 := Lib.hid (own_base own3 hb)
        have HB3 := Lib.hid B3
        have hlk : (l.take k).length = k := by rw [List.length_take]; omega
        have sh := slice_head (P := Tryz.prog) 80 9 Tryz.underlying80 1 size_string A l.length cap k (by omega)
        have st := slice_tail (P := Tryz.prog) 80 9 Tryz.underlying80 1 size_string A l.length cap k (by omega)
        obtain ⟨B1', cb1, hv1, _⟩ := own_form own1
        obtain ⟨B2', cb2, hv2, _⟩ := own_form own2
        obtain ⟨B3', cb3, hv3, _⟩ := own_form own3
        rw [hlk] at hv1
        rw [List.length_append, hlk] at hv2
        obtain ⟨N3, hN3⟩ : ∃ N3, N3 = (insN l n).length := ⟨_, rfl⟩
        have HO3 := HO3.out
        rw [← hN3] at hv3 HO3
        have HO3 := Lib.hid HO3
        have HN3 := Lib.hid hN3
        clear hN3
        subst hv1 hv2 hv3
        have hT := Tryz.underlying80
        have tok1 : True := trivial
        have tok2 : True := trivial
        rw [hwa] at run2
        clear hnone hrow hb own1 g1 B1 hwa Ba owna sa own2 g2 B2 s3 own3 g3 B3 hmid hlk hin hah
        generalize tailA A cap k 1 = A3 at st run3
        by_cases hlt : k < l.length
        · obtain ⟨x, hxk⟩ : ∃ x, l[k]? = some x := ⟨_, List.getElem?_eq_getElem hlt⟩
          have hless := HGO.out x hxk
          have hxn : (x == n) = false := by
            cases hq : x == n with
            | false => rfl
            | true => exact absurd (by rw [hxk]; simpa using hq) heq
          obtain ⟨g, rfl, cp⟩ := HAT.out k x hxk
          clear hxk heq
          go_wp2_with (first
            | (at_builtin; have tk := tok1; clear tk; refine wpList_append_run run1 (by rfl) _ _ (by rfl) (by rfl) (by rfl) (by rfl) ?_; clear tok1)
            | (at_builtin; have tk := tok2; clear tk; refine wpList_append_run run2 (by rfl) _ _ (by rfl) (by rfl) (by rfl) (by rfl) ?_; clear tok2)
            | (at_builtin; refine wpList_append_run run3 (by rfl) _ _ (by rfl) (by rfl) (by rfl) (by rfl) ?_)
            | (refine wpList_slice_run sh hT (by rfl) _ _ _ (by rfl) (by rfl) (by rfl) (by rfl) ?_)
            | (refine wpList_slice_run st hT (by rfl) _ _ _ (by rfl) (by rfl) (by rfl) (by rfl) ?_))
          go_ret
          exact ⟨.slice B3' N3 cb3, rfl, by rw [← HN3.out]; exact HO3.out, HB3.out⟩
        · clear heq
          go_wp2_with (first
            | (at_builtin; have tk := tok1; clear tk; refine wpList_append_run run1 (by rfl) _ _ (by rfl) (by rfl) (by rfl) (by rfl) ?_; clear tok1)
            | (at_builtin; have tk := tok2; clear tk; refine wpList_append_run run2 (by rfl) _ _ (by rfl) (by rfl) (by rfl) (by rfl) ?_; clear tok2)
            | (at_builtin; refine wpList_append_run run3 (by rfl) _ _ (by rfl) (by rfl) (by rfl) (by rfl) ?_)
            | (refine wpList_slice_run sh hT (by rfl) _ _ _ (by rfl) (by rfl) (by rfl) (by rfl) ?_)
            | (refine wpList_slice_run st hT (by rfl) _ _ _ (by rfl) (by rfl) (by rfl) (by rfl) ?_))
          go_ret
          exact ⟨.slice B3' N3 cb3, rfl, by rw [← HN3.out]; exact HO3.out, HB3.out⟩


section
variable {w : World} {FR : Nat → Prop} {rb : Nat} {v : Value} {fs : List Ent} {r : RSt}
/-- where a name begins -/
def fromN (d : List UInt8) : Nat := if d = [47] then 1 else d.length + 1
/-- between two rounds of the search for a name's end -/
def EndI (p : List UInt8) (f : Nat) (i : Value) : Prop := ∃ e : Nat, f ≤ e ∧ e ≤ p.length ∧ i = .int .i64 e ∧ ∀ j, f ≤ j → j < e → p[j]? ≠ some 47
theorem name_cut {d p : List UInt8} {e : Nat} (h1 : fromN d ≤ e) (hs : ∀ j, fromN d ≤ j → j < e → p[j]? ≠ some 47) (h47 : p[e]? = some 47) : nameR d p = (p.drop (fromN d)).take (e - fromN d) ++ [47] := by
  unfold nameR
  show headP (p.drop (fromN d)) = _
  exact headP_cut _ _ (by rw [List.getElem?_drop, show fromN d + (e - fromN d) = e by omega]; exact h47) fun k hk => by rw [List.getElem?_drop]; exact hs _ (by omega) (by omega)
theorem name_end {d p : List UInt8} (hs : ∀ j, fromN d ≤ j → j < p.length → p[j]? ≠ some 47) : nameR d p = (p.drop (fromN d)).take (p.length - fromN d) := by
  unfold nameR
  show headP (p.drop (fromN d)) = _
  rw [headP_plain _ fun k hk => ?_, List.take_of_length_le (by rw [List.length_drop]; omega)]
  rw [List.getElem?_drop] at hk
  have := (List.getElem?_eq_some_iff.1 hk).1
  exact hs _ (by omega) this hk
theorem from_le {d p : List UInt8} (hg : goodP p = true) (hb : belowR d p = true) : fromN d ≤ p.length := by
  unfold fromN
  by_cases h : d = [47]
  · rw [if_pos h]
    unfold goodP at hg
    split at hg
    · simp
    · cases hg
  · rw [if_neg h]
    have hbp : belowP d p = true := by unfold belowR at hb; simpa [h] using hb
    obtain ⟨r, rfl⟩ := (below_iff h).1 hbp
    simp
theorem namesR_snoc (d : List UInt8) (ps : List (List UInt8)) (p : List UInt8) : namesR d (ps ++ [p]) = if belowR d p then insN (namesR d ps) (nameR d p) else namesR d ps := by
  unfold namesR
  rw [List.foldl_append]
  rfl
theorem namesR_le (d : List UInt8) (ps : List (List UInt8)) : (namesR d ps).length ≤ ps.length := by
  refine snoc_ind (P := fun ps => (namesR d ps).length ≤ ps.length) (Nat.le_refl _) (fun l p ih => ?_) ps
  show (namesR d (l ++ [p])).length ≤ (l ++ [p]).length
  rw [namesR_snoc, List.length_append]
  split
  · have := insN_le (namesR d l) (nameR d p)
    simp
    omega
  · simp
    omega
/-- between two rounds: k files have come -/
def NamesI (w : World) (d : List UInt8) (fs : List Ent) (l i : Value) (W : World) : Prop :=
  ∃ k : Nat, k ≤ fs.length ∧ i = .int .i64 k ∧ W.ownsRow w.heap.size 9 1 l (namesR d ((fs.take k).map (·.path))).length ((namesR d ((fs.take k).map (·.path))).map str) ∧ Below w.heap.size w W
theorem namesR_same {d : List UInt8} {fs : List Ent} {k : Nat} {x : Ent} (hx : fs[k]? = some x) (hb : belowR d x.path = false) : namesR d ((fs.take (k + 1)).map (·.path)) = namesR d ((fs.take k).map (·.path)) := by
  rw [List.take_add_one, hx]
  simp only [Option.toList_some, List.map_append, List.map_cons, List.map_nil]
  rw [namesR_snoc, hb, if_neg (by simp)]
theorem str_add (a : List UInt8) : Value.string ((⟨a.toArray⟩ : ByteArray) ++ ⟨#[47]⟩) = str (a ++ [47]) := by
  congr 1
theorem namesR_next {d : List UInt8} {fs : List Ent} {k : Nat} {x : Ent} (hx : fs[k]? = some x) (hb : belowR d x.path = true) : namesR d ((fs.take (k + 1)).map (·.path)) = insN (namesR d ((fs.take k).map (·.path))) (nameR d x.path) := by
  rw [List.take_add_one, hx]
  simp only [Option.toList_some, List.map_append, List.map_cons, List.map_nil]
  rw [namesR_snoc, hb]
  rfl

set_option maxRecDepth 100000 in
set_option maxHeartbeats 8000000 in
theorem refNames_any (h : RefV w FR rb v fs r) (hgood : ∀ x ∈ fs, goodP x.path = true) (d : List UInt8) (hd : d.length ≤ 1024) :
    Calls Tryz.prog 108 #[.pointer (some ⟨rb, 0, none⟩), str d] w (InsPost w w.heap.size (namesR d (fs.map (·.path)))) := by
  obtain ⟨A, cap, rfl, hcap, _, _⟩ := h.form
  have hn := h.short
  have H := Lib.hid h
  have HG := Lib.hid hgood
  have hfr : (fromN d : Int) = if d = [47] then 1 else (d.length : Int) + 1 := by unfold fromN; split <;> rfl
  have hf1 : fromN d ≤ 1025 := by unfold fromN; split <;> omega
  have h0 : NamesI w d fs (.slice none 0 0) (.int .i64 0) w := ⟨0, Nat.zero_le _, rfl, by rw [List.take_zero]; exact World.ownsRow_nil _ _ _ _, Below.refl _ _⟩
  have H0 := Lib.hid h0
  have HD := Lib.hid hd
  have hd' : (d.length : Int) ≤ 1024 := by omega
  clear h hgood h0 hd
  cases hr : d == [47] with
  | true =>
    have hdr : d = [47] := by simpa using hr
    have hfv : fromN d = 1 := by unfold fromN; rw [if_pos hdr]
    clear hdr
    go_enter Tryz.func108, Tryz.ntmps108
    go_wp2_with fail
    have HF := Lib.hid hfv
    clear hfv hfr
    go_loopw [6, 7, 8, 9, 10] (fun l i _ _ _ W => NamesI w d fs l i W) (fun _ i _ _ _ _ => fs.length - (intOf i).toNat)
    case atStart => exact H0.out
    case round =>
      obtain ⟨k, hk, rfl, hrow, hB⟩ := hrel
      obtain ⟨acc, hacc⟩ : ∃ acc, acc = namesR d ((fs.take k).map (·.path)) := ⟨_, rfl⟩
      rw [← hacc] at hrow
      have hal : acc.length ≤ 4096 := by
        have := namesR_le d ((fs.take k).map (·.path))
        rw [← hacc] at this
        simp only [List.length_map, List.length_take] at this
        omega
      have HACC := Lib.hid hacc
      have HB := Lib.hid hB
      obtain ⟨Al, capl, rfl, _⟩ := own_form hrow
      have HROW := Lib.hid hrow
      have hW := H.out.below hB
      have c0 := hW.cell0
      clear hacc
      by_cases hlt : k < fs.length
      · have hx : fs[k]? = some fs[k] := List.getElem?_eq_getElem hlt
        generalize fs[k] = x at hx
        obtain ⟨A', cap', e, _, _, hat⟩ := hW.form
        injection e with e1 e2 e3
        subst e1 e3
        obtain ⟨g, rfl, _, cp, _, _⟩ := hat k x hx
        have hxm := List.mem_of_getElem? hx
        have hgx := HG.out x hxm
        have hpl := goodP_len hgx
        have CB := Lib.hid (refBelow_any x.path d wr (good_short' hgx) (Nat.le_trans HD.out (by unfold maxLen; omega)))
        have HX := Lib.hid hx
        have HGX := Lib.hid hgx
        clear hx hat hxm hgx hW hrow hB
        cases hb : belowR d x.path with
        | false =>
          rw [hb] at CB
          have HBL := Lib.hid hb
          clear hb
          go_wp2_with (go_at_call 165; refine (CB.out).mono ?_; rintro e w' ⟨rfl, rfl⟩)
          go_roundw
          case rel => exact ⟨k + 1, by omega, by go_num, by rw [namesR_same HX.out HBL.out, ← HACC.out]; exact HROW.out, HB.out⟩
          case measure => simp [intOf]; omega
        | true =>
          rw [hb] at CB
          have HBL := Lib.hid hb
          have hfl : 1 ≤ x.path.length := by rw [← HF.out]; exact from_le HGX.out hb
          clear hb
          go_wp2_with (go_at_call 165; refine (CB.out).mono ?_; rintro e w' ⟨rfl, rfl⟩)
          have CI := Lib.hid (fun n => insert_any wr w.heap.size (.slice Al acc.length capl) acc n HROW.out HB.out.size (by omega))
          have HNX := Lib.hid (namesR_next HX.out HBL.out)
          rw [← HACC.out] at HNX
          have HLE := Lib.hid hfl
          obtain ⟨wo, hwo⟩ : ∃ wo : World, wo = wr := ⟨_, rfl⟩
          subst hwo
          generalize hpp : x.path = pp at *
          go_loop [9] (fun i => EndI pp 1 i) (fun i => pp.length - (intOf i).toNat)
          case atStart => exact ⟨1, Nat.le_refl _, HLE.out, rfl, fun j h1 h2 => by omega⟩
          case round =>
            obtain ⟨e, he1, he2, rfl, hns⟩ := hrel
            have HNS := Lib.hid hns
            clear hns
            by_cases hend : e = pp.length
            · subst hend
              have hxs := extract_str pp 1 pp.length
              have hnm : nameR d pp = (pp.drop 1).take (pp.length - 1) := by
                have := name_end (d := d) (p := pp) (by rw [HF.out]; exact HNS.out)
                rwa [HF.out] at this
              have HNM := Lib.hid hnm
              clear hnm
              generalize (pp.drop 1).take (pp.length - 1) = n at hxs HNM
              go_wp2_with (go_at_call 166; refine (CI.out n).mono ?_; rintro e2 w2 ⟨u, rfl, hu, hb2⟩; have HU := Lib.hid hu; have HB2 := Lib.hid hb2; clear hu hb2)
              go_roundw
              case rel => exact ⟨k + 1, by omega, by go_num, by rw [HNX.out, HNM.out]; exact HU.out, HB.out.trans (HB2.out.mono HB.out.size)⟩
              case measure => simp [intOf]; omega
            · have hlt2 : e < pp.length := by omega
              obtain ⟨c, hc⟩ : ∃ c, pp[e]? = some c := ⟨_, List.getElem?_eq_getElem hlt2⟩
              have ec : ∀ h, ((⟨pp.toArray⟩ : ByteArray)[e]'h) = c := fun h => at_ba hc h
              by_cases h47 : c = 47
              · subst h47
                have hxs := extract_str pp 1 e
                have hnm : nameR d pp = (pp.drop 1).take (e - 1) ++ [47] := by
                  have := name_cut (d := d) (p := pp) (e := e) (by rw [HF.out]; exact he1) (by rw [HF.out]; exact HNS.out) hc
                  rwa [HF.out] at this
                have hnl : ((pp.drop 1).take (e - 1)).length ≤ 1024 := by rw [List.length_take, List.length_drop]; omega
                have HNM := Lib.hid hnm
                clear hnm hc
                generalize (pp.drop 1).take (e - 1) = n at hxs HNM hnl
                have hadd : ∀ W : World, (Op.stringOp .add ⟨n.toArray⟩ ⟨#[47]⟩).run Tryz.prog W = .ok (.string ((⟨n.toArray⟩ : ByteArray) ++ ⟨#[47]⟩)) W := fun W => run_string_add_sum W _ _ (by simp [ByteArray.size]; omega)
                go_wp2_with (go_at_call 166; rw [str_add]; refine (CI.out (n ++ [47])).mono ?_; rintro e2 w2 ⟨u, rfl, hu, hb2⟩; have HU := Lib.hid hu; have HB2 := Lib.hid hb2; clear hu hb2)
                go_roundw
                case rel => exact ⟨k + 1, by omega, by go_num, by rw [HNX.out, HNM.out]; exact HU.out, HB.out.trans (HB2.out.mono HB.out.size)⟩
                case measure => simp [intOf]; omega
              · have HC := Lib.hid hc
                have hq : ((c.toNat : Int) != 47) = true := by
                  have : c.toNat ≠ 47 := fun e => h47 (UInt8.toNat_inj.1 e)
                  simp; omega
                have HQ := Lib.hid h47
                clear hc h47
                go_wp2_with fail
                go_round
                case rel =>
                  refine ⟨e + 1, by omega, by omega, by go_num, fun j a b => ?_⟩
                  by_cases hj : j = e
                  · rw [hj, HC.out]
                    exact fun e => HQ.out (Option.some.inj e)
                  · exact HNS.out j a (by omega)
                case measure => simp [intOf]; omega
      · have hge : fs.length ≤ k := by omega
        have HEND := Lib.hid (show acc = namesR d (fs.map (·.path)) by rw [HACC.out, List.take_of_length_le hge])
        clear hW hrow hB
        go_wp2_with fail
        go_ret
        exact ⟨.slice Al acc.length capl, rfl, by rw [← HEND.out]; exact HROW.out, HB.out⟩
  | false =>
    have hdr : ¬ d = [47] := by simpa using hr
    rw [if_neg hdr] at hfr
    clear hdr
    go_enter Tryz.func108, Tryz.ntmps108
    go_wp2_with fail
    rw [← hfr]
    generalize hF : fromN d = F at *
    have HF := Lib.hid hF
    clear hF hfr
    go_loopw [6, 7, 8, 9, 10] (fun l i _ _ _ W => NamesI w d fs l i W) (fun _ i _ _ _ _ => fs.length - (intOf i).toNat)
    case atStart => exact H0.out
    case round =>
      obtain ⟨k, hk, rfl, hrow, hB⟩ := hrel
      obtain ⟨acc, hacc⟩ : ∃ acc, acc = namesR d ((fs.take k).map (·.path)) := ⟨_, rfl⟩
      rw [← hacc] at hrow
      have hal : acc.length ≤ 4096 := by
        have := namesR_le d ((fs.take k).map (·.path))
        rw [← hacc] at this
        simp only [List.length_map, List.length_take] at this
        omega
      have HACC := Lib.hid hacc
      have HB := Lib.hid hB
      obtain ⟨Al, capl, rfl, _⟩ := own_form hrow
      have HROW := Lib.hid hrow
      have hW := H.out.below hB
      have c0 := hW.cell0
      clear hacc
      by_cases hlt : k < fs.length
      · have hx : fs[k]? = some fs[k] := List.getElem?_eq_getElem hlt
        generalize fs[k] = x at hx
        obtain ⟨A', cap', e, _, _, hat⟩ := hW.form
        injection e with e1 e2 e3
        subst e1 e3
        obtain ⟨g, rfl, _, cp, _, _⟩ := hat k x hx
        have hxm := List.mem_of_getElem? hx
        have hgx := HG.out x hxm
        have hpl := goodP_len hgx
        have CB := Lib.hid (refBelow_any x.path d wr (good_short' hgx) (Nat.le_trans HD.out (by unfold maxLen; omega)))
        have HX := Lib.hid hx
        have HGX := Lib.hid hgx
        clear hx hat hxm hgx hW hrow hB
        cases hb : belowR d x.path with
        | false =>
          rw [hb] at CB
          have HBL := Lib.hid hb
          clear hb
          go_wp2_with (go_at_call 165; refine (CB.out).mono ?_; rintro e w' ⟨rfl, rfl⟩)
          go_roundw
          case rel => exact ⟨k + 1, by omega, by go_num, by rw [namesR_same HX.out HBL.out, ← HACC.out]; exact HROW.out, HB.out⟩
          case measure => simp [intOf]; omega
        | true =>
          rw [hb] at CB
          have HBL := Lib.hid hb
          have hfl : F ≤ x.path.length := by rw [← HF.out]; exact from_le HGX.out hb
          clear hb
          go_wp2_with (go_at_call 165; refine (CB.out).mono ?_; rintro e w' ⟨rfl, rfl⟩)
          have CI := Lib.hid (fun n => insert_any wr w.heap.size (.slice Al acc.length capl) acc n HROW.out HB.out.size (by omega))
          have HNX := Lib.hid (namesR_next HX.out HBL.out)
          rw [← HACC.out] at HNX
          have HLE := Lib.hid hfl
          obtain ⟨wo, hwo⟩ : ∃ wo : World, wo = wr := ⟨_, rfl⟩
          subst hwo
          generalize hpp : x.path = pp at *
          go_loop [9] (fun i => EndI pp F i) (fun i => pp.length - (intOf i).toNat)
          case atStart => exact ⟨F, Nat.le_refl _, HLE.out, rfl, fun j h1 h2 => by omega⟩
          case round =>
            obtain ⟨e, he1, he2, rfl, hns⟩ := hrel
            have HNS := Lib.hid hns
            clear hns
            by_cases hend : e = pp.length
            · subst hend
              have hxs := extract_str pp F pp.length
              have hnm : nameR d pp = (pp.drop F).take (pp.length - F) := by
                have := name_end (d := d) (p := pp) (by rw [HF.out]; exact HNS.out)
                rwa [HF.out] at this
              have HNM := Lib.hid hnm
              clear hnm
              generalize (pp.drop F).take (pp.length - F) = n at hxs HNM
              go_wp2_with (go_at_call 166; refine (CI.out n).mono ?_; rintro e2 w2 ⟨u, rfl, hu, hb2⟩; have HU := Lib.hid hu; have HB2 := Lib.hid hb2; clear hu hb2)
              go_roundw
              case rel => exact ⟨k + 1, by omega, by go_num, by rw [HNX.out, HNM.out]; exact HU.out, HB.out.trans (HB2.out.mono HB.out.size)⟩
              case measure => simp [intOf]; omega
            · have hlt2 : e < pp.length := by omega
              obtain ⟨c, hc⟩ : ∃ c, pp[e]? = some c := ⟨_, List.getElem?_eq_getElem hlt2⟩
              have ec : ∀ h, ((⟨pp.toArray⟩ : ByteArray)[e]'h) = c := fun h => at_ba hc h
              by_cases h47 : c = 47
              · subst h47
                have hxs := extract_str pp F e
                have hnm : nameR d pp = (pp.drop F).take (e - F) ++ [47] := by
                  have := name_cut (d := d) (p := pp) (e := e) (by rw [HF.out]; exact he1) (by rw [HF.out]; exact HNS.out) hc
                  rwa [HF.out] at this
                have hnl : ((pp.drop F).take (e - F)).length ≤ 1024 := by rw [List.length_take, List.length_drop]; omega
                have HNM := Lib.hid hnm
                clear hnm hc
                generalize (pp.drop F).take (e - F) = n at hxs HNM hnl
                have hadd : ∀ W : World, (Op.stringOp .add ⟨n.toArray⟩ ⟨#[47]⟩).run Tryz.prog W = .ok (.string ((⟨n.toArray⟩ : ByteArray) ++ ⟨#[47]⟩)) W := fun W => run_string_add_sum W _ _ (by simp [ByteArray.size]; omega)
                go_wp2_with (go_at_call 166; rw [str_add]; refine (CI.out (n ++ [47])).mono ?_; rintro e2 w2 ⟨u, rfl, hu, hb2⟩; have HU := Lib.hid hu; have HB2 := Lib.hid hb2; clear hu hb2)
                go_roundw
                case rel => exact ⟨k + 1, by omega, by go_num, by rw [HNX.out, HNM.out]; exact HU.out, HB.out.trans (HB2.out.mono HB.out.size)⟩
                case measure => simp [intOf]; omega
              · have HC := Lib.hid hc
                have hq : ((c.toNat : Int) != 47) = true := by
                  have : c.toNat ≠ 47 := fun e => h47 (UInt8.toNat_inj.1 e)
                  simp; omega
                have HQ := Lib.hid h47
                clear hc h47
                go_wp2_with fail
                go_round
                case rel =>
                  refine ⟨e + 1, by omega, by omega, by go_num, fun j a b => ?_⟩
                  by_cases hj : j = e
                  · rw [hj, HC.out]
                    exact fun e => HQ.out (Option.some.inj e)
                  · exact HNS.out j a (by omega)
                case measure => simp [intOf]; omega
      · have hge : fs.length ≤ k := by omega
        have HEND := Lib.hid (show acc = namesR d (fs.map (·.path)) by rw [HACC.out, List.take_of_length_le hge])
        clear hW hrow hB
        go_wp2_with fail
        go_ret
        exact ⟨.slice Al acc.length capl, rfl, by rw [← HEND.out]; exact HROW.out, HB.out⟩

def ListRPost (w : World) (FR : Nat → Prop) (rb : Nat) (v : Value) (fs : List Ent) (res : List (List UInt8) × Int × RSt) (e : Ending) (w' : World) : Prop :=
  ∃ u, e = .returned (.tuple #[u, .int .i64 res.2.1]) ∧ w'.ownsRow w.heap.size 9 1 u res.1.length (res.1.map str) ∧ RefV w' FR rb v fs res.2.2 ∧ Touch (fun k => k = rb) w w'

set_option maxRecDepth 100000 in
set_option maxHeartbeats 8000000 in
theorem refList_any (h : RefV w FR rb v fs r) (hgood : ∀ x ∈ fs, goodP x.path = true) (ho : ROk r) (d : List UInt8) :
    Calls Tryz.prog 41 #[.pointer (some ⟨rb, 0, none⟩), str d] w (ListRPost w FR rb v fs (listR fs r d)) := by
  have hR : listR fs r d = if (startR r (d == [47] || goodP d)).1 ≠ 0 then ([], startR r (d == [47] || goodP d)) else if (findE fs d).isSome then ([], 24, (startR r (d == [47] || goodP d)).2) else if !dirR fs d then ([], 4, (startR r (d == [47] || goodP d)).2) else (namesR d (fs.map (·.path)), 0, (startR r (d == [47] || goodP d)).2) := rfl
  have CG := Lib.hid (refGood_any d w)
  have CC := Lib.hid (refCall_any h ho)
  have HF := Lib.hid h
  have HG := Lib.hid hgood
  have c5 := h.cell5
  clear h hgood ho
  cases hdn : r.down with
  | true =>
    have hs : startR r (d == [47] || goodP d) = (22, r) := by unfold startR; rw [hdn]; rfl
    rw [hs, if_pos (by simp)] at hR
    have HR := Lib.hid hR
    rw [hdn] at c5
    clear hs hR hdn
    go_enter Tryz.func41, Tryz.ntmps41
    go_wp2_with fail
    go_ret2
    rw [HR.out]
    exact ⟨_, rfl, World.ownsRow_nil _ _ _ _, HF.out, Touch.refl _ _⟩
  | false =>
    rw [hdn] at c5
    by_cases hgd : (d == [47] || goodP d) = true
    · rw [hgd] at hR
      have hs : startR r true = if (callR r).1 ≠ 0 then goesR (callR r).1 (callR r).2 else (0, (callR r).2) := by unfold startR; rw [hdn]; rfl
      rw [hs] at hR
      have hdl : d.length ≤ 1024 := by
        rw [Bool.or_eq_true] at hgd
        rcases hgd with e | e
        · have : d = [47] := by simpa using e
          rw [this]; simp
        · exact goodP_len e
      have hpl : d.length ≤ maxLen := Nat.le_trans hdl (by unfold maxLen; omega)
      generalize hcr : callR r = kr at CC hR
      obtain ⟨k, r1⟩ := kr
      clear hs hcr hdn
      have hcase : (d == [47]) = true ∨ ((d == [47]) = false ∧ goodP d = true) := by
        cases hq : d == [47] with
        | true => exact .inl rfl
        | false => rw [hq, Bool.false_or] at hgd; exact .inr ⟨rfl, hgd⟩
      clear hgd
      by_cases hk0 : k = 0
      · subst hk0
        simp only [ne_eq, not_true_eq_false, if_false] at hR
        have hgef : decide (0 ≤ findR fs d) = (findE fs d).isSome := by
          have hneg := findR_neg fs d
          have : decide (0 ≤ findR fs d) = !decide (findR fs d < 0) := by
            by_cases hh : findR fs d < 0
            · rw [decide_eq_true hh, decide_eq_false (by omega)]; rfl
            · rw [decide_eq_false hh, decide_eq_true (by omega)]; rfl
          rw [this, hneg, Bool.not_not]
        have CF : Hid (∀ W, RefV W FR rb v fs r1 → Calls Tryz.prog 100 #[.pointer (some ⟨rb, 0, none⟩), str d] W fun e w' => e = .returned (.int .i64 (findR fs d)) ∧ W = w') := Lib.hid fun W hW => refFind_any hW d
        have CD : Hid (∀ W, RefV W FR rb v fs r1 → Calls Tryz.prog 107 #[.pointer (some ⟨rb, 0, none⟩), str d] W fun e w' => e = .returned (.bool (dirR fs d)) ∧ W = w') := Lib.hid fun W hW => refDir_any hW d hpl
        have CN : Hid (∀ W, RefV W FR rb v fs r1 → Calls Tryz.prog 108 #[.pointer (some ⟨rb, 0, none⟩), str d] W (InsPost W W.heap.size (namesR d (fs.map (·.path))))) := Lib.hid fun W hW => refNames_any hW HG.out d hdl
        generalize findR fs d = n at CF hgef
        cases hfd : (findE fs d).isSome with
        | true =>
          rw [hfd] at hR hgef
          rw [if_pos rfl] at hR
          have HR := Lib.hid hR
          clear hR hfd
          rcases hcase with hr | ⟨hr, hgd⟩
          · skip
            have hr' : (d != [47]) = false := by rw [bne, hr]; rfl
            go_enter Tryz.func41, Tryz.ntmps41
            go_wp2_with (first
              | (go_at_call 106; refine (CG.out).mono ?_; rintro e w' ⟨rfl, rfl⟩)
              | (go_at_call 97; refine (CC.out).mono ?_; rintro e w2 ⟨rfl, hF, hT⟩; have HF2 := Lib.hid hF; have HT2 := Lib.hid hT; clear hF hT)
              | (go_at_call 100; refine (CF.out _ HF2.out).mono ?_; rintro e w' ⟨rfl, rfl⟩))
            go_ret2
            rw [HR.out]
            exact ⟨_, rfl, World.ownsRow_nil _ _ _ _, HF2.out, HT2.out⟩
          · skip
            rw [hgd] at CG
            clear hgd
            have hr' : (d != [47]) = true := by rw [bne, hr]; rfl
            go_enter Tryz.func41, Tryz.ntmps41
            go_wp2_with (first
              | (go_at_call 106; refine (CG.out).mono ?_; rintro e w' ⟨rfl, rfl⟩)
              | (go_at_call 97; refine (CC.out).mono ?_; rintro e w2 ⟨rfl, hF, hT⟩; have HF2 := Lib.hid hF; have HT2 := Lib.hid hT; clear hF hT)
              | (go_at_call 100; refine (CF.out _ HF2.out).mono ?_; rintro e w' ⟨rfl, rfl⟩))
            go_ret2
            rw [HR.out]
            exact ⟨_, rfl, World.ownsRow_nil _ _ _ _, HF2.out, HT2.out⟩
        | false =>
          rw [hfd] at hR hgef
          rw [if_neg (by simp)] at hR
          clear hfd
          cases hdd : dirR fs d with
          | false =>
            rw [hdd] at hR CD
            rw [if_pos (show (!false) = true from rfl)] at hR
            have HR := Lib.hid hR
            clear hR hdd
            rcases hcase with hr | ⟨hr, hgd⟩
            · skip
              have hr' : (d != [47]) = false := by rw [bne, hr]; rfl
              go_enter Tryz.func41, Tryz.ntmps41
              go_wp2_with (first
                | (go_at_call 106; refine (CG.out).mono ?_; rintro e w' ⟨rfl, rfl⟩)
                | (go_at_call 97; refine (CC.out).mono ?_; rintro e w2 ⟨rfl, hF, hT⟩; have HF2 := Lib.hid hF; have HT2 := Lib.hid hT; clear hF hT)
                | (go_at_call 100; refine (CF.out _ HF2.out).mono ?_; rintro e w' ⟨rfl, rfl⟩)
                | (go_at_call 107; refine (CD.out _ HF2.out).mono ?_; rintro e w' ⟨rfl, rfl⟩))
              go_ret2
              rw [HR.out]
              exact ⟨_, rfl, World.ownsRow_nil _ _ _ _, HF2.out, HT2.out⟩
            · skip
              rw [hgd] at CG
              clear hgd
              have hr' : (d != [47]) = true := by rw [bne, hr]; rfl
              go_enter Tryz.func41, Tryz.ntmps41
              go_wp2_with (first
                | (go_at_call 106; refine (CG.out).mono ?_; rintro e w' ⟨rfl, rfl⟩)
                | (go_at_call 97; refine (CC.out).mono ?_; rintro e w2 ⟨rfl, hF, hT⟩; have HF2 := Lib.hid hF; have HT2 := Lib.hid hT; clear hF hT)
                | (go_at_call 100; refine (CF.out _ HF2.out).mono ?_; rintro e w' ⟨rfl, rfl⟩)
                | (go_at_call 107; refine (CD.out _ HF2.out).mono ?_; rintro e w' ⟨rfl, rfl⟩))
              go_ret2
              rw [HR.out]
              exact ⟨_, rfl, World.ownsRow_nil _ _ _ _, HF2.out, HT2.out⟩
          | true =>
            rw [hdd] at hR CD
            rw [if_neg (by simp)] at hR
            have HR := Lib.hid hR
            clear hR hdd
            rcases hcase with hr | ⟨hr, hgd⟩
            · skip
              have hr' : (d != [47]) = false := by rw [bne, hr]; rfl
              go_enter Tryz.func41, Tryz.ntmps41
              go_wp2_with (first
                | (go_at_call 106; refine (CG.out).mono ?_; rintro e w' ⟨rfl, rfl⟩)
                | (go_at_call 97; refine (CC.out).mono ?_; rintro e w2 ⟨rfl, hF, hT⟩; have HF2 := Lib.hid hF; have HT2 := Lib.hid hT; clear hF hT)
                | (go_at_call 100; refine (CF.out _ HF2.out).mono ?_; rintro e w' ⟨rfl, rfl⟩)
                | (go_at_call 107; refine (CD.out _ HF2.out).mono ?_; rintro e w' ⟨rfl, rfl⟩)
                | (go_at_call 108; refine (CN.out _ HF2.out).mono ?_; rintro e w3 ⟨u, rfl, hu, hb⟩; have HU := Lib.hid hu; have HB := Lib.hid hb; clear hu hb))
              go_ret2
              rw [HR.out]
              exact ⟨_, rfl, own_base HU.out HT2.out.size, HF2.out.below HB.out, HT2.out.trans (Touch.of_below HB.out)⟩
            · skip
              rw [hgd] at CG
              clear hgd
              have hr' : (d != [47]) = true := by rw [bne, hr]; rfl
              go_enter Tryz.func41, Tryz.ntmps41
              go_wp2_with (first
                | (go_at_call 106; refine (CG.out).mono ?_; rintro e w' ⟨rfl, rfl⟩)
                | (go_at_call 97; refine (CC.out).mono ?_; rintro e w2 ⟨rfl, hF, hT⟩; have HF2 := Lib.hid hF; have HT2 := Lib.hid hT; clear hF hT)
                | (go_at_call 100; refine (CF.out _ HF2.out).mono ?_; rintro e w' ⟨rfl, rfl⟩)
                | (go_at_call 107; refine (CD.out _ HF2.out).mono ?_; rintro e w' ⟨rfl, rfl⟩)
                | (go_at_call 108; refine (CN.out _ HF2.out).mono ?_; rintro e w3 ⟨u, rfl, hu, hb⟩; have HU := Lib.hid hu; have HB := Lib.hid hb; clear hu hb))
              go_ret2
              rw [HR.out]
              exact ⟨_, rfl, own_base HU.out HT2.out.size, HF2.out.below HB.out, HT2.out.trans (Touch.of_below HB.out)⟩
      · simp only [ne_eq, hk0, not_false_eq_true, if_true] at hR
        have hq1 : (k == 0) = false := by simpa using hk0
        have hq2 : (k != 0) = true := by simpa using hk0
        rw [if_pos (goes_ne k r1)] at hR
        have HR := Lib.hid hR
        clear hR hk0
        rcases hcase with hr | ⟨hr, hgd⟩
        · skip
          have hr' : (d != [47]) = false := by rw [bne, hr]; rfl
          go_enter Tryz.func41, Tryz.ntmps41
          go_wp2_with (first
            | (go_at_call 106; refine (CG.out).mono ?_; rintro e w' ⟨rfl, rfl⟩)
            | (go_at_call 97; refine (CC.out).mono ?_; rintro e w2 ⟨rfl, hF, hT⟩; have HF2 := Lib.hid hF; have HT2 := Lib.hid hT; clear hF hT)
            | (go_at_call 98; refine (refGoes_any HF2.out k).mono ?_; rintro e w3 ⟨rfl, hF, hT⟩; have HF3 := Lib.hid hF; have HT3 := Lib.hid (HT2.out.trans hT); clear hF hT))
          go_ret2
          rw [HR.out]
          exact ⟨_, rfl, World.ownsRow_nil _ _ _ _, HF3.out, HT3.out⟩
        · skip
          rw [hgd] at CG
          clear hgd
          have hr' : (d != [47]) = true := by rw [bne, hr]; rfl
          go_enter Tryz.func41, Tryz.ntmps41
          go_wp2_with (first
            | (go_at_call 106; refine (CG.out).mono ?_; rintro e w' ⟨rfl, rfl⟩)
            | (go_at_call 97; refine (CC.out).mono ?_; rintro e w2 ⟨rfl, hF, hT⟩; have HF2 := Lib.hid hF; have HT2 := Lib.hid hT; clear hF hT)
            | (go_at_call 98; refine (refGoes_any HF2.out k).mono ?_; rintro e w3 ⟨rfl, hF, hT⟩; have HF3 := Lib.hid hF; have HT3 := Lib.hid (HT2.out.trans hT); clear hF hT))
          go_ret2
          rw [HR.out]
          exact ⟨_, rfl, World.ownsRow_nil _ _ _ _, HF3.out, HT3.out⟩
    · have hgd' : (d == [47] || goodP d) = false := by simpa using hgd
      have hs : startR r (d == [47] || goodP d) = (23, r) := by unfold startR; rw [hdn, hgd']; rfl
      rw [hs, if_pos (by simp)] at hR
      have HR := Lib.hid hR
      rw [Bool.or_eq_false_iff] at hgd'
      obtain ⟨hr, hg⟩ := hgd'
      rw [hg] at CG
      have hr' : (d != [47]) = true := by rw [bne, hr]; rfl
      clear hs hR hdn hgd hg
      go_enter Tryz.func41, Tryz.ntmps41
      go_wp2_with (go_at_call 106; refine (CG.out).mono ?_; rintro e w' ⟨rfl, rfl⟩)
      go_ret2
      rw [HR.out]
      exact ⟨_, rfl, World.ownsRow_nil _ _ _ _, HF.out, Touch.refl _ _⟩
end

end Go.Proofs.YthpkfgjjaieikaaGreatDoor
