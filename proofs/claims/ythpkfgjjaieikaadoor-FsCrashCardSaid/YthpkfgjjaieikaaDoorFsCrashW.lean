/-
  The walk of FsCrash: what an operation that gives an error leaves of the files.
-/
import Derived.Test.YthpkfgjjaieikaaDoorFsCrashP
import Derived.Maps.RangeWalk
import Derived.WalkSpells
namespace Go.Proofs.YthpkfgjjaieikaaDoor
open Go.RowKit Go.Shelf Go.Lib Go.Maps
open Lean Elab Tactic Meta

/-- the cell of the operation -/
def OBox (W : World) (n : Nat) (d : Int) (p q : List UInt8) (B : Value) (k i j : Int) : Prop := W.heap[n]? = some (.cells #[.int .i64 d, str p, str q, B, .int .i64 k, .int .i64 i, .int .i64 j] 43)
theorem OBox.get {W : World} {n : Nat} {d : Int} {p q : List UInt8} {B : Value} {k i j : Int} (h : OBox W n d p q B k i j) : W.cell? ⟨n, 0, none⟩ = some (.int .i64 d) ∧ W.cell? ⟨n, 1, none⟩ = some (str p) ∧ W.cell? ⟨n, 2, none⟩ = some (str q) ∧ W.cell? ⟨n, 3, none⟩ = some B ∧ W.cell? ⟨n, 4, none⟩ = some (.int .i64 k) ∧ W.cell? ⟨n, 5, none⟩ = some (.int .i64 i) ∧ W.cell? ⟨n, 6, none⟩ = some (.int .i64 j) :=
  ⟨cell_of_row W n 0 _ _ _ h, cell_of_row W n 1 _ _ _ h, cell_of_row W n 2 _ _ _ h, cell_of_row W n 3 _ _ _ h, cell_of_row W n 4 _ _ _ h, cell_of_row W n 5 _ _ _ h, cell_of_row W n 6 _ _ _ h⟩
theorem OBox.lt {W : World} {n : Nat} {d : Int} {p q : List UInt8} {B : Value} {k i j : Int} (h : OBox W n d p q B k i j) : n < W.heap.size := (Array.getElem?_eq_some_iff.1 h).1
theorem OBox.same {W W' : World} {n : Nat} {d : Int} {p q : List UInt8} {B : Value} {k i j : Int} (h : OBox W n d p q B k i j) (e : W'.heap[n]? = W.heap[n]?) : OBox W' n d p q B k i j := e.trans h
/-- a relation of two file systems' texts, out of their maps -/
theorem text_elem {W : World} {bm : Nat} {ms : List Ent} (h : TextMap W bm ms) {q : List UInt8} {c : Value} {y : DataW Value × List MemPlace} (hv : heldR c = some y) (hat : ∀ zd, (toD ms).atKey (.string q) zd = y.1) : ∃ t, lookD ms q = some t ∧ c = str t := by
  obtain ⟨x, hx, hxp⟩ := mem_of_at hat
  have hf : (findE ms q).isSome = true := by
    rw [findE, List.isSome_find?, List.any_eq_true]
    exact ⟨x, hx, by simp [hxp]⟩
  obtain ⟨z, hz⟩ := Option.isSome_iff_exists.1 hf
  have h1 := hat (.held (str []))
  rw [toD_at, hz] at h1
  injection hv with hv
  rw [← hv] at h1
  injection h1 with h1
  exact ⟨z.data, by unfold lookD; rw [hz]; rfl, by rw [← h1]; exact h.2 z (findE_mem hz).1⟩
/-- between two files -/
def WasRel (ms : List Ent) (bm : Nat) (w5 : World) (W : World) : Prop :=
  ∃ left cnt, W.ranges Tryd.prog 9 heldR bm w5.heap.size ms.length (toD ms) left cnt ∧ Below w5.heap.size w5 W
theorem lookD_of {ms es : List Ent} (h : ∀ q, (findE ms q).map (·.data) = (findE es q).map (·.data)) : lookD ms = lookD es := funext h

theorem ranges_drewN {w : World} {bm r n cnt : Nat} {D : DataW Value} {left : Lit → Bool} (h : w.ranges Tryd.prog 9 heldR bm r n D left cnt) (k : Nat) : (w.drewN k).ranges Tryd.prog 9 heldR bm r n D left cnt :=
  h.kept (row := none) (w' := w.drewN k) ⟨rfl, rfl, rfl, Nat.le_refl _, fun _ _ _ => rfl⟩ (by simp) (by simp)

set_option maxRecDepth 100000 in
set_option maxHeartbeats 4000000 in
theorem crash_walk (w : World) (vs : Value) (os : List OpD) (o : OpD) (hs : ScriptAt w vs os) (ho : OpAt w o) :
    Calls Tryd.prog 5 #[vs, o.val] w (BegunPost w) := by
  obtain ⟨od, op, oq, oB, oc, ok, oi, oj⟩ := o
  obtain ⟨A9, cap9, hB9, r9⟩ := id ho.reads
  simp only at hB9
  subst hB9
  clear r9
  obtain ⟨wA, hwA⟩ : ∃ wA, wA = w.alloc (.cells #[.int .i64 od, str op, str oq, .slice A9 oc.length cap9, .int .i64 ok, .int .i64 oi, .int .i64 oj] 43) := ⟨_, rfl⟩
  have hA : Below w.heap.size w wA := by rw [hwA]; exact (Below.refl _ w).alloc (Nat.le_refl _) _
  have hAs : wA.heap.size = w.heap.size + 1 := by rw [hwA]; simp
  have hob : OBox wA w.heap.size od op oq (.slice A9 oc.length cap9) ok oi oj := by rw [hwA]; exact World.alloc_heap_new w _
  have cr := run_any wA Inv inv_nil (fun _ _ _ _ _ _ h k => inv_one h k) vs os (hs.touch (Touch.of_below (T := fun _ => False) hA) fun _ _ h => h)
  rw [hwA] at cr
  have CR := Lib.hid cr
  have HLEN := Lib.hid hs.len
  have HOK := Lib.hid ho
  have HA := Lib.hid hA
  have HAS := Lib.hid hAs
  have HOB := Lib.hid hob
  have HWA := Lib.hid hwA
  have hmn := fun (W : World) (r : Option Nat) => run_eql_map_nil (P := Tryd.prog) W 44 _ _ r Tryd.underlying44
  obtain ⟨A0, cap0, rfl, r0⟩ := id hs.cells
  clear r0
  clear hs ho hA hAs hob hwA cr
  show Calls Tryd.prog 5 #[.slice A0 os.length cap0, .agg #[.int .i64 od, str op, str oq, .slice A9 oc.length cap9, .int .i64 ok, .int .i64 oi, .int .i64 oj]] w (BegunPost w)
  go_enter Tryd.func5, Tryd.ntmps5
  go_wp2_with (first
    | (go_at_call 11; refine (CR.out).mono ?_; rw [← HWA.out]; rintro e w1 ⟨b, bm, es, s, rfl, hF, ho, hc, hl, hi, hb⟩; have HF1 := Lib.hid hF.tight; have HO1 := Lib.hid ho; have HC1 := Lib.hid hc; have HL := Lib.hid hl; have HINV := Lib.hid hi; have HOB1 := Lib.hid (HOB.out.same (hb.block _ HOB.out.lt)); have HB1 := Lib.hid hb; clear hF ho hc hl hi hb)
    | (go_at_call 8; refine (begun_any _).mono ?_; rintro e w2 ⟨rfl, hb⟩; have HF2 := Lib.hid (HF1.out.below hb); have HOB2 := Lib.hid (HOB1.out.same (hb.block _ HOB1.out.lt)); have HB2 := Lib.hid (HB1.out.trans (hb.mono HB1.out.size)); have HS2 := Lib.hid hb.size; clear hb))
  have CF := fun W (h : Below w2.heap.size w2 W) => files_any W _ b bm es s (HF2.out.below h) HO1.out (by have h1 := HC1.out; have h2 := HLEN.out; omega) HL.out HINV.out
  have CF := Lib.hid (CF w2 (Below.refl _ _))
  have CO := Lib.hid (fun (w3 : World) (hb : Below w2.heap.size w2 w3) => one_any w3 (fun k => wA.heap.size ≤ k ∧ k < w1.heap.size) b bm es s ⟨od, op, oq, .slice A9 oc.length cap9, oc, ok, oi, oj⟩ (HF2.out.below (hb.mono (Nat.le_refl _))) HO1.out (by have h1 := HC1.out; have h2 := HLEN.out; omega)
    (fun W hT => (HOK.out.touch (T := fun _ => False) (Touch.of_below (HA.out.trans ((HB2.out.trans (hb.mono (by have h1 := HB2.out.size; omega))).mono (by have h1 := HAS.out; omega)) |>.trans (hT.below (by have h1 := HAS.out; have h2 := HB2.out.size; have h3 := hb.size; omega) fun k hk => by have h1 := HAS.out; have h2 := hk.1; omega))) fun _ _ h => h).reads) (by have := HOK.out.small; simp only at this ⊢; omega) HL.out)
  go_wp2_with (first
    | (go_at_call 18; refine (CF.out).mono ?_; rintro e w3 ⟨bm1, ms1, rfl, hlow, hT, hq, hb⟩; have HOB3 := HOB2.out.same (hb.block _ HOB2.out.lt); obtain ⟨d0, d1, d2, d3, d4, d5, d6⟩ := HOB3.get; have HOB3 := Lib.hid HOB3; have HF3 := Lib.hid (HF2.out.below hb); have HT1 := Lib.hid hT; have HQ1 := Lib.hid (lookD_of hq); have HLOW := Lib.hid hlow; have HB3 := Lib.hid (HB2.out.trans (hb.mono HB2.out.size)); have HB23 := Lib.hid hb; clear hb hT hq hlow CF))
  go_at_call 19
  have cc := CO.out _ HB23.out
  refine cc.mono ?_
  clear cc d0 d1 d2 d3 d4 d5 d6 CO
  rintro e w4 ⟨r, es', s', rfl, hF, hT, hres⟩
  obtain ⟨hst4, hca4⟩ := one_next hres HO1.out (by have h1 := HC1.out; have h2 := HLEN.out; omega) HOK.out.ok
  have hes4 := one_len hres HL.out
  have hin4 := inv_one HINV.out hres
  have hob4 := HOB3.out.same (hT.block _ HOB3.out.lt fun h => by have h1 := HAS.out; have h2 := h.1; omega)
  have hcl4 : s'.calls ≤ 1000000000000000 := by have h1 := HC1.out; have h2 := HLEN.out; omega
  have CF2 := Lib.hid (files_any w4 _ b bm es' s' hF hst4 hcl4 hes4 hin4)
  have ht4 : TextMap w4 bm1 ms1 := HT1.out.touch hT fun h => by have h1 := HLOW.out; have h2 := HS2.out; have h3 := h.2; omega
  have hb4 : Below w.heap.size w w4 := (HA.out.trans (HB3.out.mono (by have h1 := HAS.out; omega))).trans (hT.below (by have h1 := HAS.out; have h2 := HB3.out.size; omega) fun k hk => by have h1 := HAS.out; have h2 := hk.1; omega)
  have HT4 := Lib.hid ht4
  have HB4 := Lib.hid hb4
  have HOB4 := Lib.hid hob4
  have HRES := Lib.hid hres
  clear hF hT hres hst4 hca4 hes4 hin4 hob4 hcl4 ht4 hb4 HT1 HF2 HF3 HF1 HB1 HB2 HB23 HB3 HOB1 HOB2 HOB3 HLOW
  by_cases hr0 : r = 0
  · subst hr0
    go_wp2_with (go_at_call 18; refine (CF2.out).mono ?_; rintro e w5 ⟨bm2, ms2, rfl, hlow, hT, hq, hb⟩; have HB5 := Lib.hid (HB4.out.trans (hb.mono HB4.out.size)); clear hb hT hq hlow CF2)
    go_ret
    exact ⟨rfl, HB5.out⟩
  have hr1 : (r == 0) = false := by simpa using hr0
  have HERR := Lib.hid (one_err HRES.out hr0)
  clear hr0
  go_wp2_with (first
    | (at_range; refine wpList_range_own _ rfl _ 44 rfl 9 9 law Tryd.underlying44 _ bm1 ms1.length (toD ms1) rfl HT5.out.1 ?_; intro w0 hrg0 hg0 hs0)
    | (go_at_call 18; refine (CF2.out).mono ?_; rintro e w5 ⟨bm2, ms2, rfl, hlow, hT, hq, hb⟩; have HT5 := Lib.hid (HT4.out.touch (Touch.of_below (T := fun _ => False) hb) id); have HU5 := Lib.hid hT; have HQ2 := Lib.hid (lookD_of hq); have HOB5 := Lib.hid (HOB4.out.same (hb.block _ HOB4.out.lt)); have HB5 := Lib.hid (HB4.out.trans (hb.mono HB4.out.size)); clear hb hT hq hlow CF2))
  go_frame
  have hrel0 : WasRel ms1 bm1 w5 w0 := ⟨_, _, hrg0, (Below.refl _ _).grown hg0 (Nat.le_refl _) (fun k e => by cases e)⟩
  have HR := Lib.hid hrel0
  clear hrg0 hg0 hs0 hrel0
  rw [← HQ1.out, ← HQ2.out] at HERR
  go_loopw [9, 10] (fun _ _ wr => WasRel ms1 bm1 w5 wr) (fun _ _ wr => wr.rangeLeft bm1 w5.heap.size)
  case atStart => exact HR.out
  case round =>
    obtain ⟨left, cnt, hrg, hB⟩ := hrel
    have HB := Lib.hid hB
    have HG := Lib.hid hrg
    clear hB hrg
    go_wp2_with (at_next; refine wpList_next_ranges _ rfl _ rfl 9 law heldR str id strInv heldInv bm1 w5.heap.size ms1.length _ _ _ rfl HG.out ?_ ?_)
    · intro hc0 hl0
      have HT6 := Lib.hid (HT5.out.touch (Touch.of_below (T := fun _ => False) HB.out) id)
      have HU6 := Lib.hid (HU5.out.touch (Touch.of_below (T := fun _ => False) HB.out) id)
      have HOB6 := Lib.hid (HOB5.out.same (HB.out.block _ HOB5.out.lt))
      have HB0 := Lib.hid (HB5.out.trans (HB.out.mono HB5.out.size))
      clear hc0 hl0 HG HB HR HT5 HU5 HOB5 
      go_wp2_with (at_range; refine wpList_range_own _ rfl _ 44 rfl 9 9 law Tryd.underlying44 _ bm2 ms2.length (toD ms2) rfl HU6.out.1 ?_; intro w0 hrg0 hg0 hs0)
      go_frame
      have hrel0 : WasRel ms2 bm2 wr w0 := ⟨_, _, hrg0, (Below.refl _ _).grown hg0 (Nat.le_refl _) (fun k e => by cases e)⟩
      have HR := Lib.hid hrel0
      clear hrg0 hg0 hs0 hrel0
      obtain ⟨wq, hwq⟩ : ∃ x, x = wr := ⟨_, rfl⟩
      subst hwq
      go_loopw [13, 14, 15, 16, 17, 100, 113] (fun _ _ _ _ _ _ _ W => WasRel ms2 bm2 wq W) (fun _ _ _ _ _ _ _ W => W.rangeLeft bm2 wq.heap.size)
      case atStart => exact HR.out
      case round =>
        obtain ⟨left, cnt, hrg, hB⟩ := hrel
        have HB := Lib.hid hB
        have HG := Lib.hid hrg
        clear hB hrg
        go_wp2_with (at_next; refine wpList_next_ranges _ rfl _ rfl 9 law heldR str id strInv heldInv bm2 _ ms2.length _ _ _ rfl HG.out ?_ ?_)
        · intro hc0 hl0
          clear hc0 hl0
          go_wp2
          go_ret
          exact ⟨rfl, HB0.out.trans (HB.out.mono HB0.out.size)⟩
        · intro q c kl yd yp w7 cnt2 hkey hlk hv hat hrg2 hlt hg2 hs2 hen
          obtain ⟨q', eq, rfl, hql⟩ := Maps.keyOf_str Tryd.underlying9 hkey
          obtain rfl : q = q' := str_inj eq
          have hB7 : Below wq.heap.size wq w7 := HB.out.grown hg2 HB.out.size (fun k e => by cases e; exact Nat.le_refl _)
          have ht1 : TextMap w7 bm1 ms1 := HT6.out.touch (Touch.of_below (T := fun _ => False) hB7) id
          have ht2 : TextMap w7 bm2 ms2 := HU6.out.touch (Touch.of_below (T := fun _ => False) hB7) id
          obtain ⟨t, ht, rfl⟩ := text_elem ht2 hv hat
          have hwhat := err_is HERR.out ht
          obtain ⟨e1, e2⟩ := text_look ht1 hql
          obtain ⟨d0, d1, d2, d3, d4, d5, d6⟩ := (HOB6.out.same (hB7.block _ HOB6.out.lt)).get
          have HREADS := Lib.hid (HOK.out.touch (T := fun _ => False) (Touch.of_below (HB0.out.trans (hB7.mono HB0.out.size))) fun _ _ h => h).reads
          have HREADN := Lib.hid (fun n : Nat => (HOK.out.touch (T := fun _ => False) ((Touch.of_below (HB0.out.trans (hB7.mono HB0.out.size))).trans (Touch.drewN w7 n)) fun _ _ h => h).reads)
          have HRG := Lib.hid hrg2
          have HB7 := Lib.hid hB7
          have HLT := Lib.hid hlt
          clear d2 d4 d5 d6 hkey hlk hv hat hrg2 hlt hg2 hs2 eq hB7 ht1 ht2 ht
          rcases hf : lookD ms1 q with _ | u
          · rw [hf] at e1 e2 hwhat
            simp only [Option.getD_none, Option.isSome_none] at e1 e2 hwhat
            clear hf
            rcases hwhat with hwhat | hwhat
            · cases hwhat
            · skip
              obtain ⟨rfl, hr2, hbc⟩ := hwhat
              have hrc := conv_reads HREADS.out
              rcases hr2 with rfl | rfl
              all_goals
                rcases hbc with ⟨rfl, hp1⟩ | ⟨rfl, hp1, hp2⟩
                · go_wp2_with (go_at_call 20; refine (hasPrefix_any _ _ _).mono ?_; rintro e w' ⟨rfl, rfl⟩; rw [hp1])
                  exact ⟨⟨_, _, HRG.out, HB7.out⟩, by rw [HRG.out.left_eq, HG.out.left_eq]; exact HLT.out⟩
                · have hlen2 : ([] : List UInt8).length ≤ t.length := List.IsPrefix.length_le (List.isPrefixOf_iff_prefix.1 hp1)
                  have hx1 : ∀ W : World, Calls Tryd.prog 20 #[str t, str ([] : List UInt8)] W fun e w' => e = .returned (.bool true) ∧ w' = W := fun W => (hasPrefix_any t ([] : List UInt8) W).mono fun _ _ ⟨h1, h2⟩ => ⟨by rw [h1, hp1], h2.symm⟩
                  have hx2 : ∀ W : World, Calls Tryd.prog 20 #[str oc, .string ((⟨t.toArray⟩ : ByteArray).extract ([] : List UInt8).length t.length)] W fun e w' => e = .returned (.bool true) ∧ w' = W := fun W => by
                    rw [drop_v]
                    exact (hasPrefix_any oc (t.drop ([] : List UInt8).length) W).mono fun _ _ ⟨h1, h2⟩ => ⟨by rw [h1, hp2], h2.symm⟩
                  have hrn := fun n : Nat => conv_reads (HREADN.out n)
                  go_wp2_with fail
                  go_quiet (first | (go_at_call 20; exact Calls.quiet_of_same (hx1 _)) | (go_at_call 20; exact Calls.quiet_of_same (hx2 _)))
                  go_wp2_with fail
                  exact ⟨⟨_, _, ranges_drewN HRG.out _, HB7.out.trans ((Touch.drewN (T := fun _ => False) w7 _).below HB7.out.size fun _ h => h.elim)⟩, by show w7.rangeLeft bm2 wq.heap.size < _; rw [HRG.out.left_eq, HG.out.left_eq]; exact HLT.out⟩
          · rw [hf] at e1 e2 hwhat
            simp only [Option.getD_some, Option.isSome_some] at e1 e2 hwhat
            clear hf
            cases hut : u == t with
            | true =>
              go_wp2_with fail
              exact ⟨⟨_, _, HRG.out, HB7.out⟩, by rw [HRG.out.left_eq, HG.out.left_eq]; exact HLT.out⟩
            | false =>
              rcases hwhat with hwhat | hwhat
              · injection hwhat with hwhat
                rw [hwhat] at hut
                simp at hut
              · skip
                obtain ⟨rfl, hr2, hbc⟩ := hwhat
                have hrc := conv_reads HREADS.out
                rcases hr2 with rfl | rfl
                all_goals
                  rcases hbc with ⟨rfl, hp1⟩ | ⟨rfl, hp1, hp2⟩
                  · go_wp2_with (go_at_call 20; refine (hasPrefix_any _ _ _).mono ?_; rintro e w' ⟨rfl, rfl⟩; rw [hp1])
                    exact ⟨⟨_, _, HRG.out, HB7.out⟩, by rw [HRG.out.left_eq, HG.out.left_eq]; exact HLT.out⟩
                  · have hlen2 : u.length ≤ t.length := List.IsPrefix.length_le (List.isPrefixOf_iff_prefix.1 hp1)
                    have hx1 : ∀ W : World, Calls Tryd.prog 20 #[str t, str u] W fun e w' => e = .returned (.bool true) ∧ w' = W := fun W => (hasPrefix_any t u W).mono fun _ _ ⟨h1, h2⟩ => ⟨by rw [h1, hp1], h2.symm⟩
                    have hx2 : ∀ W : World, Calls Tryd.prog 20 #[str oc, .string ((⟨t.toArray⟩ : ByteArray).extract u.length t.length)] W fun e w' => e = .returned (.bool true) ∧ w' = W := fun W => by
                      rw [drop_v]
                      exact (hasPrefix_any oc (t.drop u.length) W).mono fun _ _ ⟨h1, h2⟩ => ⟨by rw [h1, hp2], h2.symm⟩
                    have hrn := fun n : Nat => conv_reads (HREADN.out n)
                    go_wp2_with fail
                    go_quiet (first | (go_at_call 20; exact Calls.quiet_of_same (hx1 _)) | (go_at_call 20; exact Calls.quiet_of_same (hx2 _)))
                    go_wp2_with fail
                    exact ⟨⟨_, _, ranges_drewN HRG.out _, HB7.out.trans ((Touch.drewN (T := fun _ => False) w7 _).below HB7.out.size fun _ h => h.elim)⟩, by show w7.rangeLeft bm2 wq.heap.size < _; rw [HRG.out.left_eq, HG.out.left_eq]; exact HLT.out⟩
    · intro q c kl yd yp w6 cnt2 hkey hlk hv hat hrg2 hlt hg2 hs2 hen
      obtain ⟨q', eq, rfl, hql⟩ := Maps.keyOf_str Tryd.underlying9 hkey
      obtain rfl : q = q' := str_inj eq
      have hB6 : Below w5.heap.size w5 w6 := HB.out.grown hg2 HB.out.size (fun k e => by cases e; exact Nat.le_refl _)
      have ht1 : TextMap w6 bm1 ms1 := HT5.out.touch (Touch.of_below (T := fun _ => False) hB6) id
      have ht2 : TextMap w6 bm2 ms2 := HU5.out.touch (Touch.of_below (T := fun _ => False) hB6) id
      obtain ⟨t, ht, rfl⟩ := text_elem ht1 hv hat
      obtain ⟨t2, ht2', hne⟩ := err_was HERR.out ht
      have hql' : q.length ≤ maxLen := hql
      obtain ⟨e1, e2⟩ := text_look ht2 hql'
      rw [ht2'] at e1 e2
      simp only [Option.getD_some, Option.isSome_some] at e1 e2
      obtain ⟨d0, d1, d2, d3, d4, d5, d6⟩ := (HOB5.out.same (hB6.block _ HOB5.out.lt)).get
      have HRG := Lib.hid hrg2
      have HB6 := Lib.hid hB6
      have HLT := Lib.hid hlt
      clear d0 d2 d3 d4 d5 d6 hkey hlk hv hat hrg2 hlt hg2 hs2 eq hB6 ht1 ht2 ht ht2' hql
      cases hqp : q == op with
      | true =>
        go_wp2_with fail
        all_goals exact ⟨⟨_, _, HRG.out, HB6.out⟩, by rw [HRG.out.left_eq, HG.out.left_eq]; exact HLT.out⟩
      | false =>
        have hts : t2 = t := hne (by simpa using hqp)
        subst hts
        have hss : (t2 != t2) = false := by simp
        go_wp2_with fail
        all_goals exact ⟨⟨_, _, HRG.out, HB6.out⟩, by rw [HRG.out.left_eq, HG.out.left_eq]; exact HLT.out⟩

end Go.Proofs.YthpkfgjjaieikaaDoor
