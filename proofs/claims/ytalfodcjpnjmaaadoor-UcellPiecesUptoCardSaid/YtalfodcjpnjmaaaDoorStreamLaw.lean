/-
  Proved here: the law UcellStream returns true for every slice of slices of bytes, where what it reads is of bulk at most 1048576, and leaves it as it was (in whatever pieces bytes come, what a decoder tells in all is the runes of all the bytes).
  Conditions: those of the given card alone (that bound; the three tables lie as the program's text lays them).
-/
import Derived.Test.YtalfodcjpnjmaaaDoorLive
import Derived.Test.YtalfodcjpnjmaaaDoorWit
import Derived.Test.YtalfodcjpnjmaaaDoorStreamM
import Derived.Deep.Matrix
namespace Go.Proofs.YtalfodcjpnjmaaaDoor.lawStream
open Go.ChangeShapes Go.WideShapes Go.ChangeAt Go.RowKit

/-- numbers as bytes -/
def toB (zs : List Int) : List UInt8 := zs.map fun z => UInt8.ofNat z.toNat
theorem toB_vals {zs : List Int} (h : ∀ z ∈ zs, (Lit.int .u8 z).wf = true) : byteVals (toB zs) = zs.map (Value.int .u8) := by
  induction zs with
  | nil => rfl
  | cons z zs ih =>
    have hz := bounds_u8 (h z List.mem_cons_self)
    have e : ((UInt8.ofNat z.toNat).toNat : Int) = z := by
      rw [UInt8.toNat_ofNat']
      omega
    have := ih fun y hy => h y (List.mem_cons_of_mem _ hy)
    simp only [toB, byteVals, List.map_cons, List.map_map, e] at this ⊢
    rw [this]
theorem bulk_map {H : Type} (f : Nat → DataW H) (g : Nat → List UInt8) : ∀ l : List Nat, (∀ r ∈ l, (g r).length + 1 ≤ Rows.uptoBulk (f r)) → (l.map g).flatten.length + l.length ≤ Rows.uptoBulkAll (l.map f) := by
  intro l
  induction l with
  | nil => intro _; exact Nat.le_refl _
  | cons r l ih =>
    intro h
    have h1 := h r List.mem_cons_self
    have h2 := ih fun x hx => h x (List.mem_cons_of_mem _ hx)
    simp only [List.map_cons, List.flatten_cons, List.length_append, List.length_cons, Rows.uptoBulkAll] at h2 ⊢
    omega

/-- an argument that is a slice of slices of bytes -/
theorem rows_of_slice {H : Type} {enc : TypeId × Value → H} {W : World} {a : Option Addr} {len cap : Nat} {d : DataW H} {p : List MemPlace}
    (h : DataW.Trod enc Tryd.prog W 0 (fun _ => true) true 41 (.slice a len cap) d p) :
    ∃ ps : List (List UInt8), ps.length = len ∧ HoldsRows W (.slice a len cap) ps ∧ ps.flatten.length + ps.length ≤ Rows.uptoBulk d := by
  obtain ⟨fuel, hf⟩ := h
  rcases Go.Deep.open_int_rows Tryd.underlying41 Tryd.underlying22 Tryd.underlying5 (by kernel_rfl) (by kernel_rfl) hf with ⟨hcs, hx⟩ | ⟨x, l, c, A, L, C, Z, hcs, _, hl, hm, hx, hrow⟩
  · simp [Value.cells] at hcs
    obtain ⟨rfl, rfl, rfl⟩ := hcs
    exact ⟨[], rfl, ⟨none, 0, rfl, fun h => by simp at h⟩, by simp⟩
  · simp [Value.cells] at hcs
    obtain ⟨rfl, rfl, rfl⟩ := hcs
    injection hx with hx1 _
    have hL : ∀ r, r < len → (toB ((Z r).take (L r))).length = L r := fun r hr => by
      obtain ⟨_, h1, _, h2, _⟩ := hrow r (by omega)
      simp [toB]
      omega
    refine ⟨(List.range len).map fun r => toB ((Z r).take (L r)), by simp, ⟨some x, cap, by simp, fun hp => ?_⟩, ?_⟩
    · have hp' : 0 < len := by simpa using hp
      obtain ⟨hc0, _⟩ := hrow 0 (by omega)
      obtain ⟨b, off, spot⟩ := x
      have hspot : spot = none := by simpa [Addr.add] using World.cell?_spot hc0
      subst hspot
      have hadd : ∀ k, (⟨b, off, none⟩ : Addr).add k = ⟨b, off + k, none⟩ := fun k => by
        unfold Addr.add
        split
        · next e => subst e; rfl
        · rfl
      refine ⟨b, off, rfl, block_lt_of_cell (by rw [hadd] at hc0; exact hc0), fun k hk => ?_⟩
      have hk' : k < len := by simpa using hk
      obtain ⟨hc, h1, h2, h3, h4, h5, h6⟩ := hrow k (by omega)
      have hkk : ((List.range len).map fun r => toB ((Z r).take (L r)))[k] = toB ((Z k).take (L k)) := by simp
      rw [hkk, hL k hk']
      refine ⟨A k, C k, by rw [← hadd]; exact hc, ?_⟩
      have hvals : byteVals (toB ((Z k).take (L k))) = ((Z k).take (L k)).map (Value.int .u8) := toB_vals fun z hz => h4 z (List.mem_of_mem_take hz)
      have hlen : (byteVals (toB ((Z k).take (L k)))).length = L k := by rw [byteVals, List.length_map]; exact hL k hk'
      refine ⟨A k, C k, by rw [hlen], ⟨by rw [hlen]; exact h1, h5⟩, fun hp => ?_⟩
      rw [hlen] at hp
      cases hA : A k with
      | none => have := h5 hA; omega
      | some a' =>
        obtain ⟨_, hcells⟩ := h6 a' hA
        obtain ⟨b', off', rfl, hat⟩ := ints_at (zs := Z k) (a := a') (k := .u8) (w := W) (fun i hi => hcells i (by omega)) (by omega)
        refine ⟨b', off', rfl, block_lt_of_cell (hat 0 (by omega)), fun j u hu => ?_⟩
        have hj : j < L k := by
          have := (List.getElem?_eq_some_iff.1 hu).1
          rwa [hlen] at this
        rw [hat j (by omega), ← hu, hvals]
        have hjz : j < (Z k).length := by omega
        simp [hj, hjz]
    · subst hx1
      have := bulk_map (fun r => Go.Deep.intRow (H := H) .u8 (A r) (L r) (Z r)) (fun r => toB ((Z r).take (L r))) (List.range len) (fun r hr => by
        have hr' : r < len := List.mem_range.1 hr
        rw [hL r hr']
        obtain ⟨_, h1, _, h3, _, h5, _⟩ := hrow r (by omega)
        cases hA : A r with
        | none =>
          have := h5 hA
          simp [Go.Deep.intRow, Rows.uptoBulk]
          omega
        | some a' =>
          simp only [Go.Deep.intRow, Rows.uptoBulk]
          have hb := bulk_len (lits (H := H) .u8 ((Z r).take (L r)))
          have hl2 : (lits (H := H) .u8 ((Z r).take (L r))).length = L r := by simp [lits]; omega
          omega)
      rw [List.length_map, List.length_range]
      rw [List.length_range] at this
      simp only [Rows.uptoBulk]
      omega

/-- the loop -/
def StreamRel (ps : List (List UInt8)) (g : Nat) (wA : World) (all got i : Value) (wr : World) : Prop :=
  ∃ (k : Nat) (x0 x1 x2 : UInt8), k ≤ ps.length ∧ i = .int .i64 k ∧ wr.ownsRow wA.heap.size 5 1 all (ps.take k).flatten.length (byteVals (ps.take k).flatten) ∧
    wr.ownsRow wA.heap.size 21 1 got (pieces [] (ps.take k)).1.length (runeVals (pieces [] (ps.take k)).1) ∧
    (pieces [] (ps.take k)).2 = heldOf x0 x1 x2 (pieces [] (ps.take k)).2.length ∧ DecAt wr g x0 x1 x2 (pieces [] (ps.take k)).2.length ∧ wA.grownBy wr (some g)

theorem runeVals_one (l : List Int) : ∀ u ∈ runeVals l, u.oneCell' = true := by
  intro u hu
  simp only [runeVals, List.mem_map] at hu
  obtain ⟨b, _, rfl⟩ := hu
  rfl
theorem runeVals_length (l : List Int) : (runeVals l).length = l.length := by simp [runeVals]
theorem flat_take (ps : List (List UInt8)) (k : Nat) : (ps.take k).flatten.length ≤ ps.flatten.length := by
  have h := List.take_append_drop k ps
  have e : ps.flatten = (ps.take k).flatten ++ (ps.drop k).flatten := by rw [← List.flatten_append, h]
  rw [e, List.length_append]
  omega

set_option maxHeartbeats 4000000 in
theorem walk (ps : List (List UInt8)) (v : Value) (w : World) (hT : Tabs w) (hv : HoldsRows w v ps) (hl : ps.flatten.length ≤ 1048576) (hp : ps.length ≤ 1048576) :
    Calls Tryd.prog 7 #[v] w fun e w' => e = .returned (.bool true) ∧ Below w.heap.size w w' := by
  obtain ⟨i5, hi5, hz50, hz51, hz52⟩ := info_parts info_byte
  obtain ⟨i21, hi21, hz210, hz211, hz212⟩ := info_parts info_rune
  obtain ⟨A, c, rfl, h⟩ := hv
  have H := Lib.hid h
  have HT := Lib.hid hT
  clear h hT
  go_enter Tryd.func7, Tryd.ntmps7
  go_wp2_with (go_at_call 30; refine (new_any _).mono ?_; rintro e w0 ⟨rfl, hw0⟩; have hb0 : Below w.heap.size w w0 := (by rw [hw0]; exact (Below.refl _ _).alloc (Nat.le_refl _) _); have hd0 : DecAt w0 w.heap.size 0 0 0 0 := (by rw [hw0]; exact heap_alloc_new w _); clear hw0; have HB0 := Lib.hid hb0; have HD0 := Lib.hid hd0; clear hb0 hd0)
  refine (live_any w0 (HT.out.below HB0.out)).mono ?_
  rintro e wA ⟨rfl, hbA⟩
  have HBA := Lib.hid (HB0.out.trans (hbA.mono HB0.out.size))
  have HDA := Lib.hid (HD0.out.kept hbA)
  have hgA := HDA.out.lt
  clear hbA HB0 HD0
  go_wp2
  go_loopw [4, 5, 17] (fun all got i wr => StreamRel ps w.heap.size wA all got i wr) (fun _ _ i _ => ps.length - (intOf i).toNat)
  case atStart => exact ⟨0, 0, 0, 0, by omega, rfl, World.ownsRow_nil _ _ _ _, World.ownsRow_nil _ _ _ _, rfl, HDA.out, World.grownBy.refl _ _⟩
  case round =>
    obtain ⟨k, x0, x1, x2, hk, rfl, hall, hgot, hheld, hdec, hgrow⟩ := hrel
    have HALL := Lib.hid hall
    have HGOT := Lib.hid hgot
    have HHELD := Lib.hid hheld
    have HDEC := Lib.hid hdec
    have HGROW := Lib.hid hgrow
    have hsz := hgrow.size
    have HB := Lib.hid (show Below w.heap.size w wr from HBA.out.grown hgrow HBA.out.size (fun j hj => by injection hj with hj; omega))
    have hft := flat_take ps k
    have hpl := pieces_len (ps.take k) [] (by simp)
    have HPL := Lib.hid hpl
    have hn3 := hpl.1
    have hgl : (pieces [] (ps.take k)).1.length ≤ 1048576 := by have := hpl.2; rw [List.length_nil, Nat.zero_add] at this; omega
    clear hall hgot hheld hdec hgrow hpl
    by_cases hlt : k < ps.length
    · obtain ⟨b, off, rfl, hblk, hrows⟩ := H.out (by omega)
      obtain ⟨Ak, ck, hcell, hhold⟩ := hrows k hlt
      have h1 : wr.cell? ⟨b, off + k, none⟩ = _ := (HB.out.cell (p := ⟨b, off + k, none⟩) hblk).trans hcell
      have HTAKE := Lib.hid (show ps.take (k + 1) = ps.take k ++ [ps[k]] from List.take_succ_eq_append_getElem hlt)
      have hft1 := flat_take ps (k + 1)
      have HHOLD := Lib.hid hhold
      rw [HTAKE.out, List.flatten_append, List.length_append] at hft1
      have hflat1 : ([ps[k]] : List (List UInt8)).flatten = ps[k] := by simp
      rw [hflat1] at hft1
      have HSN := Lib.hid (pieces_snoc (ps.take k) ps[k] [])
      have HFL := Lib.hid (show (ps.take (k + 1)).flatten = (ps.take k).flatten ++ ps[k] by rw [HTAKE.out, List.flatten_append, hflat1])
      rw [← HTAKE.out] at HSN
      clear hcell hrows hhold hflat1
      generalize ps[k] = p at *
      have hpb : (byteVals p).length = p.length := by simp [byteVals]
      have q63 : (ps.take k).flatten.length + (byteVals p).length ≤ maxLen := by rw [hpb]; unfold maxLen; omega
      have qby : ((ps.take k).flatten.length + (byteVals p).length) * 1 ≤ 140737488355328 := by rw [hpb]; omega
      have Q63 := Lib.hid q63
      have QBY := Lib.hid qby
      have HPB := Lib.hid hpb
      have hpr := putAll_rest ((pieces [] (ps.take k)).2 ++ p)
      have HPR := Lib.hid hpr
      have hpr2 := hpr.2
      rw [List.length_append] at hpr2
      clear q63 qby hpb hpr
      go_wp2_with (at_builtin; refine append_only wr rfl _ _ 22 rfl wA.heap.size 5 i5 (.int .u8 0) 1 Tryd.underlying22 hi5 hz50 hz51 hz52 rfl _ (ps.take k).flatten.length (byteVals (ps.take k).flatten) rfl (by exact HALL.out) (.slice Ak p.length ck) (byteVals p) (byteVals_one p) rfl (by exact HHOLD.out.below HB.out) Q63.out QBY.out hsz ?_; intro all1 w1 ho1 hg1)
      have HGR1 := Lib.hid (grown_row HGROW.out HALL.out (Nat.le_refl _) hg1)
      have HGOT1 := Lib.hid (own_other HGOT.out HALL.out (by decide) hg1)
      have HDEC1 := Lib.hid (dec_other HDEC.out HALL.out hgA hg1)
      have HALL1 := Lib.hid ho1
      have HB1 := Lib.hid (show Below w.heap.size w w1 from HBA.out.grown HGR1.out HBA.out.size (fun j hj => by injection hj with hj; omega))
      clear ho1 hg1 HGROW HGOT HDEC HALL
      refine (put_any p _ w.heap.size x0 x1 x2 _ w1 (HT.out.below HB1.out) HDEC1.out hn3 (HHOLD.out.below HB1.out) (by omega)).mono ?_
      rintro e w2 ⟨r2, y0, y1, y2, rfl, ho2, hh2, hd2, hg2⟩
      rw [← HHELD.out] at ho2 hh2 hd2
      have hs1 := HGR1.out.size
      have HGR2 := Lib.hid (only_trans HGR1.out hg2)
      have HALL2 := Lib.hid (own_only HALL1.out hg2 hgA)
      have HGOT2 := Lib.hid (own_only HGOT1.out hg2 hgA)
      have HR2 := Lib.hid (Holds1.of_own ho2)
      have HD2 := Lib.hid hd2
      have HH2 := Lib.hid hh2
      have hs2 := HGR2.out.size
      have hrl : (runeVals (putAll ((pieces [] (ps.take k)).2 ++ p)).1).length = (putAll ((pieces [] (ps.take k)).2 ++ p)).1.length := runeVals_length _
      have HRL := Lib.hid hrl
      have q63 : (pieces [] (ps.take k)).1.length + (runeVals (putAll ((pieces [] (ps.take k)).2 ++ p)).1).length ≤ maxLen := by rw [hrl]; unfold maxLen; omega
      have qby : ((pieces [] (ps.take k)).1.length + (runeVals (putAll ((pieces [] (ps.take k)).2 ++ p)).1).length) * 4 ≤ 140737488355328 := by rw [hrl]; omega
      have R63 := Lib.hid q63
      have RBY := Lib.hid qby
      clear ho2 hh2 hd2 hg2 HGR1 HALL1 HGOT1 HDEC1 hrl q63 qby HHELD HB1
      go_wp2_with (at_builtin; refine append_only w2 rfl _ _ 23 rfl wA.heap.size 21 i21 (.int .i32 0) 4 Tryd.underlying23 hi21 hz210 hz211 hz212 rfl _ (pieces [] (ps.take k)).1.length (runeVals (pieces [] (ps.take k)).1) rfl (by exact HGOT2.out) r2 (runeVals (putAll ((pieces [] (ps.take k)).2 ++ p)).1) (runeVals_one _) rfl (by exact HR2.out) R63.out RBY.out hs2 ?_; intro got3 w3 ho3 hg3)
      have HGR3 := Lib.hid (grown_row HGR2.out HGOT2.out (Nat.le_refl _) hg3)
      have HALL3 := Lib.hid (own_other HALL2.out HGOT2.out (by decide) hg3)
      have HD3 := Lib.hid (dec_other HD2.out HGOT2.out hgA hg3)
      have HGOT3 := Lib.hid ho3
      have h3 := HPR.out.1
      clear ho3 hg3 HGR2 HALL2 HGOT2 HD2 HR2
      have CP := Lib.hid (pending_any w.heap.size y0 y1 y2 _ w3 HD3.out)
      go_wp2_with (go_at_call 33; refine (CP.out).mono ?_; rintro e w4 ⟨rfl, rfl⟩)
      go_roundw
      case rel =>
        refine ⟨k + 1, y0, y1, y2, by omega, by go_num, ?_, ?_, ?_, ?_, HGR3.out⟩
        · rw [HFL.out, List.length_append, byteVals_append]
          have := HALL3.out
          rw [HPB.out] at this
          exact this
        · rw [HSN.out]
          have := HGOT3.out
          rw [HRL.out] at this
          simpa [runeVals] using this
        · rw [HSN.out]; exact HH2.out
        · rw [HSN.out]; exact HD3.out
      case measure => simp [intOf]; omega
    · have e : ps.take k = ps := List.take_of_length_le (by omega)
      rw [e] at HALL HGOT HHELD HDEC HPL hn3 hgl
      have hdl := decAll_le (pieces [] ps).2
      have hpa := pieces_all ps []
      rw [List.nil_append] at hpa
      have HPA := Lib.hid hpa
      have hdf := decAll_le ps.flatten
      clear e hpa hft
      have CF := Lib.hid (flush_any w.heap.size x0 x1 x2 _ wr (HT.out.below HB.out) HDEC.out hn3)
      rw [← HHELD.out] at CF
      have hrl : (runeVals (decAll (pieces [] ps).2)).length = (decAll (pieces [] ps).2).length := runeVals_length _
      have q63 : (pieces [] ps).1.length + (runeVals (decAll (pieces [] ps).2)).length ≤ maxLen := by rw [hrl]; unfold maxLen; omega
      have qby : ((pieces [] ps).1.length + (runeVals (decAll (pieces [] ps).2)).length) * 4 ≤ 140737488355328 := by rw [hrl]; omega
      have R63 := Lib.hid q63
      have RBY := Lib.hid qby
      have HRL := Lib.hid hrl
      clear q63 qby hrl
      go_wp2_with (first
        | (go_at_call 34; refine (CF.out).mono ?_; rintro e w1 ⟨r1, y0, y1, y2, rfl, ho1, hd1, hg1⟩; have HO1 := Lib.hid (Holds1.of_own ho1); have HD1 := Lib.hid hd1; have HGR1 := Lib.hid (only_trans HGROW.out hg1); have HALL1 := Lib.hid (own_only HALL.out hg1 hgA); have HGOT1 := Lib.hid (own_only HGOT.out hg1 hgA); clear ho1 hd1 hg1)
        | (at_builtin; refine append_only w1 rfl _ _ 23 rfl wA.heap.size 21 i21 (.int .i32 0) 4 Tryd.underlying23 hi21 hz210 hz211 hz212 rfl _ (pieces [] ps).1.length (runeVals (pieces [] ps).1) rfl (by exact HGOT1.out) r1 (runeVals (decAll (pieces [] ps).2)) (runeVals_one _) rfl (by exact HO1.out) R63.out RBY.out HGR1.out.size ?_; intro got3 w3 ho3 hg3; have HGR3 := Lib.hid (grown_row HGR1.out HGOT1.out (Nat.le_refl _) hg3); have HALL3 := Lib.hid (own_other HALL1.out HGOT1.out (by decide) hg3); have HD3 := Lib.hid (dec_other HD1.out HGOT1.out hgA hg3); have HGOT3 := Lib.hid ho3; clear ho3 hg3))
      have HB3 := Lib.hid (show Below w.heap.size w w3 from HBA.out.grown HGR3.out HBA.out.size (fun j hj => by injection hj with hj; omega))
      refine (runes_any ps.flatten _ w3 (HT.out.below HB3.out) (Holds1.of_own HALL3.out) (by omega)).mono ?_
      rintro e w4 ⟨r4, rfl, ho4, hb4⟩
      have hgot : Holds1 w4 got3 (runeVals (decAll ps.flatten)) := by
        have := (Holds1.of_own HGOT3.out).below hb4
        rw [HPA.out]
        simpa [runeVals] using this
      have HG4 := Lib.hid hgot
      have HR4 := Lib.hid (Holds1.of_own ho4)
      have HD4 := Lib.hid (HD3.out.kept hb4)
      have HB4 := Lib.hid (HB3.out.trans (hb4.mono HB3.out.size))
      clear hgot ho4 hb4 HD3 HB3 HGOT3 HALL3 HGR3
      go_wp2_with fail
      refine (equal_runes (decAll ps.flatten) _ _ w4 HG4.out HR4.out (by omega)).mono ?_
      rintro e w5 ⟨rfl, n5, hw5⟩
      have hb5 : Below w4.heap.size w4 w5 := by rw [hw5]; exact ⟨rfl, rfl, rfl, Nat.le_refl _, fun _ _ => rfl⟩
      have HB5 := Lib.hid (HB4.out.trans (hb5.mono HB4.out.size))
      have CP := Lib.hid (pending_any w.heap.size y0 y1 y2 0 w5 (HD4.out.kept hb5))
      clear hw5 hb5 HB4 HD4 HG4 HR4
      go_wp2_with (go_at_call 33; refine (CP.out).mono ?_; rintro e w6 ⟨rfl, rfl⟩)
      go_ret
      exact ⟨rfl, HB5.out⟩

theorem contract (H : Type) (enc : TypeId × Value → H) (W : World) (base : Nat) (args : Array Value) (ds gs : List (DataW H)) (before : List MemPlace)
    (hval : ∀ (j : Nat) t v, Tryd.f7.params[j]? = some t → args[j]? = some v → Value.okWide Tryd.prog W .any base t v)
    (hW : DataW.Whole enc Tryd.prog Tryd.f7.params.toList Rows.ucellStreamSpec.vars false W args.toList ds gs before)
    (hcond : Rows.uptoSmall H (ds ++ gs) = true) (hL : laidMetH Tryd.prog Rows.ucellStreamUptoRow.laid W) :
    Calls Tryd.prog 7 args W fun e W' => ∃ v, e = .returned v ∧ Rows.ucellStreamSpec.post enc Tryd.prog Tryd.f7 false true false false W args v W' := by
  have hW' := hW
  obtain ⟨p, q, hA0, hV, rfl, hfz, hnd⟩ := hW
  have hA : DataW.TrodAll enc Tryd.prog W 0 (fun _ => true) true Tryd.f7.params.toList args.toList ds p := hA0
  rw [Tryd.params7] at hA hval
  obtain ⟨v0, vs0, d0, ds0, p0, q0, hargs, rfl, rfl, h0, r0⟩ := trodAll_cons hA
  obtain ⟨rfl, rfl, rfl⟩ := trodAll_nil r0
  obtain rfl : args = #[v0] := by cases args; simp_all
  obtain ⟨rfl, rfl⟩ := trodVars_none hV
  have k0 := h0
  have lt0 : ∀ x ∈ p0, x.block < W.heap.size := by obtain ⟨m, hm⟩ := k0; exact DataW.trod_lt m _ _ _ hm
  obtain ⟨a0, len0, cap0, rfl⟩ := okWide_slice Tryd.underlying41 (hval 0 41 v0 rfl rfl)
  obtain ⟨z0, e0, hh0, hd0⟩ := rows_of_slice h0
  have hbulk := bulk_of hcond
  simp only [List.append_nil, Rows.uptoBulkAll] at hbulk
  have b0 : z0.flatten.length + z0.length ≤ 1048576 := Nat.le_trans hd0 (by omega)
  clear hA0
  refine (walk z0 _ W (tabs_of hL) hh0 (by omega) (by omega)).mono fun e W' ⟨he, bel⟩ => ?_
  subst he
  exact ⟨_, rfl, _, _, _, [], _, [], hW', trodAll_mk1 (shut_bool Tryd.underlying4 _), (trodAll_cons_mk (Below.trod laidOut (by kernel_rfl) (of_decide_eq_true (by kernel_rfl)) k0 bel lt0) trodAll_mk0), rfl, bel.frame _, fun h => by cases h⟩

theorem laid_met (os : Os) : laidMet Tryd.prog Rows.ucellStreamUptoRow.laid ((laidWorld os).forCall (fun _ _ => 0) ⟨#[], #[.slice none 0 0], []⟩).memory :=
  laidMet_of_run' 8 (by kernel_rfl) (by kernel_rfl)
theorem reads (os : Os) {H : Type} (enc : TypeId × Value → H) : ∃ places, DataW.whole enc Tryd.prog ((laidWorld os).forCall (fun _ _ => 0) ⟨#[], #[.slice none 0 0], []⟩).memory Tryd.f7.params.toList Rows.ucellStreamSpec.vars false #[Value.slice none 0 0].toList 8 = some ([.nil], [], places) :=
  ⟨[], by kernel_rfl⟩

set_option maxRecDepth 100000 in
theorem lifted (os : Os) (started : os.Started) (H : Type) (enc : TypeId × Value → H) (F : Stop.Interp) :
    ReturnsInHanded {} Tryd.checked os 7 .any ((Rows.OpenSpec.upto Rows.ucellStreamSpec).preRow enc Tryd.prog Tryd.f7 Rows.ucellStreamUptoRow.domain false Rows.ucellStreamUptoRow.laid) (((Rows.OpenSpec.upto Rows.ucellStreamSpec).at F).post enc Tryd.prog Tryd.f7 false true false false) := by
  obtain ⟨places, hx⟩ := reads os enc
  refine returnsInHanded_of_row (C := Tryd.checked) (s := Rows.OpenSpec.upto Rows.ucellStreamSpec) own started (by kernel_rfl) Tryd.func7
    (witness_row_at (enc := enc) (C := Tryd.checked) false (laidWorld os) #[.slice none 0 0] rfl (by kernel_rfl) (by kernel_rfl) (by kernel_rfl)
      (OpenSpec.preRow_of_cond 8 hx (by kernel_rfl) (fun k hk => by cases hk; kernel_rfl) (by kernel_rfl) (laid_met os))) ?_
  intro W base args ds gs before hval hW _ hcond _ hL _ _
  exact contract H enc W base args ds gs before hval hW (hcond _ rfl) hL

theorem said : Rows.UcellStreamUptoSaid :=
  OpenClaim.holds_of_cond 7 Tryd.f7 rfl rfl rfl rfl rfl rfl rfl ⟨rfl, rfl, rfl, rfl, rfl⟩ rfl rfl rfl rfl rfl (by kernel_rfl) Tryd.func7 (by kernel_rfl)
    (of_decide_eq_true (by kernel_rfl)) (by unfold Func.isWrapper; first | (rw [if_pos (by decide +kernel)]; kernel_rfl) | (rw [if_neg (by decide +kernel)]; exact ⟨rfl, rfl⟩))
    (fun os started H enc _ F => by rw [OpenClaim.pre_eq_preRow]; exact lifted os started H enc F)

theorem plain (f : FuncId) (fn : Func) (hf : Tryd.pinned.checked.prog.funcNamed "lanyard/lanyardlaw01.UcellStream" = some f) (hfn : Tryd.pinned.checked.prog.funcs[f]? = some fn) :
    false = Tryd.pinned.checked.prog.looks [] ∧ ∀ (j : Nat) t, fn.params[j]? = some t → Tryd.pinned.checked.prog.wantsStandIn t = false := by
  obtain rfl : f = 7 := Option.some.inj ((show Tryd.prog.funcNamed "lanyard/lanyardlaw01.UcellStream" = some 7 by kernel_rfl).symm.trans hf) |>.symm
  obtain rfl : fn = Tryd.f7 := (Option.some.inj (Tryd.func7.symm.trans hfn)).symm
  refine ⟨by kernel_rfl, fun j t ht => ?_⟩
  rw [Tryd.params7] at ht
  have ht' := Array.mem_of_getElem? ht
  simp at ht'
  subst ht'
  exact (show Tryd.prog.wantsStandIn 41 = false by kernel_rfl)

theorem card : Rows.UcellStreamUptoCardSaid :=
  Claim7.holds_tied_plain_at .later [] _ _ _ _ said (fun _ h => by cases h) (by kernel_rfl) (fun _ h => by cases h) ucellStreamUpto_row_tie rfl ⟨rfl, rfl⟩ (by kernel_rfl) rfl plain (by kernel_rfl)


end Go.Proofs.YtalfodcjpnjmaaaDoor.lawStream
