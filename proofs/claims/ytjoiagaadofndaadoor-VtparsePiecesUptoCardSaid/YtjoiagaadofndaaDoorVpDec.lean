/-
  A decoder that lies within a parser: what Put, Flush and Pending return and what they leave.
-/
import Derived.Test.YtjoiagaadofndaaDoorVpRep
import Derived.Test.YtjoiagaadofndaaDoorFullAny
import Derived.Test.YtjoiagaadofndaaDoorStreamP
import Derived.StillTailTactics
import Derived.Laws.CopyOwn
namespace Go.Proofs.YtjoiagaadofndaaDoor
open Go.RowKit

section
variable {w : World} {g : Nat} {R : Raw}
theorem held_holds (h : RawAt w g R) (ok : RawOk R) : Holds1 w (.slice (some ⟨g, 3, none⟩) R.n 3) (byteVals (heldOf R.h0 R.h1 R.h2 R.n)) := by
  have hn := ok.n3
  have hl : (byteVals (heldOf R.h0 R.h1 R.h2 R.n)).length = R.n := by simp [byteVals_length, heldOf]; omega
  refine ⟨_, _, by rw [hl], ⟨by omega, fun h => by cases h⟩, fun _ => ⟨g, 3, rfl, h.lt, fun j u hu => ?_⟩⟩
  have hj : j < R.n := by rw [← hl]; exact (List.getElem?_eq_some_iff.1 hu).1
  refine h.cell ?_
  rw [row_hd R (3 + j) (by omega)]
  simp only [byteVals, heldOf, List.getElem?_map, List.getElem?_take] at hu
  match j, hj with
  | 0, _ => rw [if_pos (by omega)] at hu; simpa [Raw.hd] using hu
  | 1, _ => rw [if_pos (by omega)] at hu; simpa [Raw.hd] using hu
  | 2, _ => rw [if_pos (by omega)] at hu; simpa [Raw.hd] using hu
  | j + 3, _ => omega
end
theorem slice_held (g n : Nat) (hn : n ≤ 3) (W : World) : (Instr.sliceAt 53 (.pointer (some ⟨g, 3, none⟩)) none (some (.int .i64 (n : Int))) none).run Tryd.prog W = .ok (.slice (some ⟨g, 3, none⟩) n 3) W := by
  simp [Instr.sliceAt, Instr.sureAddr, Instr.sliceBounds, Instr.sliceBound, asIntOf, run_underlying Tryd.underlying53, go_sem]
  omega
theorem slice_all (g : Nat) (W : World) : (Instr.sliceAt 53 (.pointer (some ⟨g, 3, none⟩)) none none none).run Tryd.prog W = .ok (.slice (some ⟨g, 3, none⟩) 3 3) W := by
  simp [Instr.sliceAt, Instr.sureAddr, Instr.sliceBounds, run_underlying Tryd.underlying53, go_sem]

/-- the decoder holds other bytes -/
def Raw.hold (R : Raw) (x0 x1 x2 : UInt8) (n : Nat) : Raw := { R with h0 := x0, h1 := x1, h2 := x2, n := n }
theorem hold_hold (R : Raw) (x0 x1 x2 y0 y1 y2 : UInt8) (n m : Nat) : (R.hold x0 x1 x2 n).hold y0 y1 y2 m = R.hold y0 y1 y2 m := rfl
theorem count_set (R : Raw) (k : Nat) : R.row.set 6 (.int .i64 k) = (R.hold R.h0 R.h1 R.h2 k).row := rfl
theorem hold_ok {R : Raw} (ok : RawOk R) (x0 x1 x2 : UInt8) {n : Nat} (hn : n ≤ 3) : RawOk (R.hold x0 x1 x2 n) := ⟨ok.L16, ok.T1024, hn, ok.c16, ok.ni2, ok.nt1024, ok.ints, ok.st13⟩
set_option maxRecDepth 1000000 in
theorem usable_any (w : World) (g : Nat) (R : Raw) (h : RawAt w g R) :
    Calls Tryd.prog 44 #[.pointer (some ⟨g, 2, none⟩)] w fun e w' => e = .returned (.bool true) ∧ w = w' := by
  have c0 : w.cell? ⟨g, 2, none⟩ = some (.bool true) := h.cell rfl
  clear h
  go_enter Tryd.func44, Tryd.ntmps44
  go_wp2
  go_ret
  exact ⟨rfl, rfl⟩

/-- what is left is copied into the decoder -/
theorem copy_held {ops : Array Oper} {rest : List Oper} {o : Oper} {a : Act} {Q : Exit → Act → World → Prop} (w : World) (hgd : o.guard = none) (d s : Operand)
    (ho : o.op = .call { callee := .builtin .copy, args := #[d, s], argTypes := #[22, 22] })
    (g : Nat) (R : Raw) (ok : RawOk R) (hd : RawAt w g R) (hdst : a.eval d = .slice (some ⟨g, 3, none⟩) 3 3) (v : Value) (r : List UInt8) (hr : r.length ≤ 3) (hs : a.eval s = v) (hv : Holds1 w v (byteVals r))
    (h : ∀ (x0 x1 x2 : UInt8) (w' : World), r = heldOf x0 x1 x2 r.length → RawAt w' g (R.hold x0 x1 x2 R.n) → w.grownBy w' (some g) → wpList Tryd.prog ops Q rest (a.put o.dst (.int .i64 r.length)) w') : wpList Tryd.prog ops Q (o :: rest) a w := by
  obtain ⟨A, c, rfl, ⟨hc, hnil⟩, hcells⟩ := hv
  rw [byteVals_length] at hs hcells
  have hsz : (Tryd.prog.info? 5).map (·.size) = some 1 := by kernel_rfl
  by_cases h00 : r = []
  · subst h00
    refine wpList_copy_nothing hgd d s _ _ ho 5 Tryd.underlying22 hsz _ _ 3 3 0 c hdst hs rfl ?_
    exact h R.h0 R.h1 R.h2 w rfl hd (World.grownBy.refl w _)
  · obtain ⟨b, off, rfl, _, hcell⟩ := hcells (List.length_pos_iff.2 h00)
    have hmin : (byteVals r).length = Nat.min r.length 3 := by rw [byteVals_length]; exact (Nat.min_eq_left hr).symm
    have hsize : R.row.toArray.size = 1055 := by rw [List.size_toArray]; exact row_length ok
    refine wpList_copy_own hgd d s _ _ ho 5 Tryd.underlying22 hsz g 3 3 3 ⟨b, off, none⟩ r.length c hdst hs _ _ hd (byteVals r) hmin (fun j y hj => ?_) (by rw [byteVals_length, hsize]; omega) (byteVals_one r) ?_
    · have := hcell j y hj
      unfold Addr.add
      split
      · next e0 => subst e0; exact this
      · exact this
    · have hgrow : ∀ cs : Array Value, w.grownBy (w.setRow g cs) (some g) := fun cs => ⟨rfl, rfl, rfl, by simp [World.setRow], fun k _ hk => setRow_other w g k cs (fun e => hk (by rw [e]))⟩
      have hrow := fun cs => setRow_heap w g _ cs _ _ hd
      rw [byteVals_length]
      match r, hr, h00 with
      | [x0], _, _ => exact h x0 R.h1 R.h2 _ rfl (hrow _) (hgrow _)
      | [x0, x1], _, _ => exact h x0 x1 R.h2 _ rfl (hrow _) (hgrow _)
      | [x0, x1, x2], _, _ => exact h x0 x1 x2 _ rfl (hrow _) (hgrow _)

/-- the loop of Put -/
def PutRel (s : List UInt8) (w : World) (b l : Value) (wr : World) : Prop :=
  ∃ (rest : List UInt8) (out : List Int) (A : Option Addr) (c : Nat), b = .slice A rest.length c ∧ Holds1 w (.slice A rest.length c) (byteVals rest) ∧ out ++ (putAll rest).1 = (putAll s).1 ∧ (putAll rest).2 = (putAll s).2 ∧ rest.length + out.length ≤ s.length ∧
    wr.ownsRow w.heap.size 21 1 l out.length (runeVals out) ∧ Below w.heap.size w wr

theorem put_step {s rest : List UInt8} {out : List Int} {w w2 : World} {A A' : Option Addr} {k x c m m' : Nat} {v' : Value} (hk : 1 ≤ k) (hlen : rest.length + out.length ≤ s.length)
    (hr : k ≤ rest.length) (hm : m = rest.length - k) (hm' : m' = c - k) (hA : A' = cutA A c k)
    (HC : Holds1 w (.slice (cutA A c k) (rest.drop k).length (c - k)) (byteVals (rest.drop k))) (HO : out ++ (putAll rest).1 = (putAll s).1) (HO2 : (putAll rest).2 = (putAll s).2)
    (HS : putAll rest = ((x : Int) :: (putAll (rest.drop k)).1, (putAll (rest.drop k)).2))
    (hown : w2.ownsRow w.heap.size 21 1 v' (out.length + 1) (runeVals out ++ [.int .i32 (x : Int)])) (hb : Below w.heap.size w w2) : PutRel s w (.slice A' m m') v' w2 := by
  subst hm hm' hA
  have hd : rest.length - k = (rest.drop k).length := by rw [List.length_drop]
  rw [hd]
  rw [HS] at HO HO2
  refine ⟨rest.drop k, out ++ [(x : Int)], _, _, rfl, HC, by rw [List.append_assoc, ← HO]; rfl, HO2, by simp; omega, ?_, hb⟩
  simpa [runeVals] using hown

/-- what Put leaves -/
def PutPost (w : World) (g : Nat) (R : Raw) (s : List UInt8) (e : Ending) (w' : World) : Prop :=
  ∃ (r : Value) (x0 x1 x2 : UInt8), e = .returned r ∧ w'.ownsRow w.heap.size 21 1 r (putAll s).1.length (runeVals (putAll s).1) ∧
    (putAll s).2 = heldOf x0 x1 x2 (putAll s).2.length ∧ RawAt w' g (R.hold x0 x1 x2 (putAll s).2.length) ∧ w.grownBy w' (some g)
theorem RawAt.kept {w w' : World} {g : Nat} {R : Raw} (hd : RawAt w g R) (hb : Below w.heap.size w w') : RawAt w' g R := hd.same (hb.block g hd.lt)
theorem RawAt.count {w : World} {g : Nat} {R : Raw} (hd : RawAt w g R) (k : Nat) : RawAt (w.setCell ⟨g, 6, none⟩ (.int .i64 k)) g (R.hold R.h0 R.h1 R.h2 k) ∧ w.grownBy (w.setCell ⟨g, 6, none⟩ (.int .i64 k)) (some g) :=
  ⟨hd.set (count_set R k), ⟨rfl, rfl, rfl, by simp [World.setCell], fun j _ hj => heap_setCell_other w ⟨g, 6, none⟩ j _ (fun e => hj (by simp [e]))⟩⟩

theorem own_base {w : World} {b b' : Nat} {e : TypeId} {size : Nat} {v : Value} {n : Nat} {xs : List Value} (h : w.ownsRow b e size v n xs) (hb : b' ≤ b) : w.ownsRow b' e size v n xs := by
  refine ⟨h.1, ?_⟩
  rcases h.2 with h0 | ⟨g, cap, cur, hv, hbase, hr⟩
  · exact .inl h0
  · exact .inr ⟨g, cap, cur, hv, Nat.le_trans hb hbase, hr⟩
theorem own_only {w w' : World} {b g : Nat} {e : TypeId} {size : Nat} {v : Value} {n : Nat} {xs : List Value} (h : w.ownsRow b e size v n xs) (hg : w.grownBy w' (some g)) (hlt : g < b) : w'.ownsRow b e size v n xs := by
  refine ⟨h.1, ?_⟩
  rcases h.2 with h0 | ⟨k, cap, cur, hv, hbase, hk, hr⟩
  · exact .inl h0
  · have hl : k < w.heap.size := by
      rcases Nat.lt_or_ge k w.heap.size with hlt | hge
      · exact hlt
      · rw [Array.getElem?_eq_none hge] at hk; cases hk
    exact .inr ⟨k, cap, cur, hv, hbase, (hg.block k hl (fun e => by injection e with e; omega)).trans hk, hr⟩
theorem only_after {a b c : World} {g : Nat} (h : Below a.heap.size a b) (k : b.grownBy c (some g)) : a.grownBy c (some g) :=
  ⟨k.os.trans h.os, k.tape.trans h.tape, k.output.trans h.output, Nat.le_trans h.size k.size, fun i hi hne => (k.block i (Nat.lt_of_lt_of_le hi h.size) hne).trans (h.block i hi)⟩
theorem only_trans {a b c : World} {g : Nat} (h : a.grownBy b (some g)) (k : b.grownBy c (some g)) : a.grownBy c (some g) :=
  ⟨k.os.trans h.os, k.tape.trans h.tape, k.output.trans h.output, Nat.le_trans h.size k.size, fun i hi hne => (k.block i (Nat.lt_of_lt_of_le hi h.size) hne).trans (h.block i hi hne)⟩

set_option maxRecDepth 1000000 in
set_option maxHeartbeats 1000000 in
theorem put_any (s : List UInt8) (v : Value) (g : Nat) (R : Raw) (w : World) (hT : Tabs w) (hd : RawAt w g R) (ok : RawOk R) (hv : Holds1 w v (byteVals s)) (hroom : s.length ≤ 400000000) :
    Calls Tryd.prog 48 #[.pointer (some ⟨g, 2, none⟩), v] w (PutPost w g R (heldOf R.h0 R.h1 R.h2 R.n ++ s)) := by
  obtain ⟨i0, hi, hz0, hz1, hz2⟩ := info_parts info_rune
  have CU := Lib.hid (usable_any w g R hd)
  have hc4 : w.cell? ⟨g, 6, none⟩ = some (.int .i64 R.n) := hd.cell rfl
  have hn := ok.n3
  have OK := Lib.hid ok
  have hsl := slice_held g R.n hn
  have hsa := slice_all g
  obtain ⟨A, c, hvv⟩ := hv.len
  rw [byteVals_length] at hvv
  subst hvv
  have HV := Lib.hid hv
  have HT := Lib.hid hT
  have HD := Lib.hid hd
  have hhl : (heldOf R.h0 R.h1 R.h2 R.n).length = R.n := by simp [heldOf]; omega
  have HHL := Lib.hid hhl
  clear hv hT hhl hd ok
  generalize hq : heldOf R.h0 R.h1 R.h2 R.n = q at *
  have HQ := Lib.hid hq
  clear hq
  go_enter Tryd.func48, Tryd.ntmps48
  go_wp2_with (go_at_call 44; refine (CU.out).mono ?_; rintro e w' ⟨rfl, rfl⟩)
  have hc4' : ({ heap := w.heap, tape := w.tape, drawn := w.drawn + 1, os := w.os, output := w.output } : World).cell? ⟨g, 6, none⟩ = some (.int .i64 R.n) := hc4
  go_still_tail 9, (by kernel_rfl)
  change wpList _ _ _ _ _ w.drew
  clear hc4' hc4 CU hsl
  go_wp2_with fail
  have hb0 : Below w.heap.size w (w.alloc (.cells #[.slice (some ⟨g, 3, none⟩) R.n 3, .slice A s.length c] 22)).drew := ((Below.refl _ _).alloc (Nat.le_refl _) _).drew
  have hheld : Holds1 w (.slice (some ⟨g, 3, none⟩) R.n 3) (byteVals q) := by rw [← HQ.out]; exact held_holds HD.out OK.out
  refine (concat_two q s _ _ w.heap.size _ (hheld.below hb0) (HV.out.below hb0) (by simp) (by simp) (by simp) (by rw [HHL.out]; omega)).mono ?_
  rintro e w1 ⟨r1, rfl, ho1, hb1⟩
  have hB1 : Below w.heap.size w w1 := hb0.trans (hb1.mono hb0.size)
  have hq3 : q.length ≤ 3 := by rw [HHL.out]; exact hn
  have hrow : Holds1 w1 r1 (byteVals (q ++ s)) := by rw [byteVals_append]; exact Holds1.of_own ho1
  obtain ⟨A1, c1, hr1⟩ := hrow.len
  rw [byteVals_length] at hr1
  subst hr1
  have HR := Lib.hid hrow
  have HB1 := Lib.hid hB1
  have hTS : (q ++ s).length ≤ 500000000 := by rw [List.length_append]; omega
  have HT1 := Lib.hid (HT.out.below hB1)
  have HD1 := Lib.hid (HD.out.kept hB1)
  have hs1 := hB1.size
  have hgw := HD.out.lt
  clear hrow hB1 ho1 hb1 hb0 hheld HV HT HD HQ HHL hq3 hroom
  generalize q ++ s = S at *
  go_wp2
  go_loopw [5, 6] (fun b l wr => PutRel S w1 b l wr) (fun b _ _ => lenOf b)
  case atStart => exact ⟨S, [], A1, c1, rfl, HR.out, rfl, rfl, by simp, World.ownsRow_nil _ _ _ _, Below.refl _ _⟩
  case round =>
    obtain ⟨rest, out, A2, c2, rfl, hr, hout, hout2, hlen, hown, hb⟩ := hrel
    have HO := Lib.hid hout
    have HO2 := Lib.hid hout2
    have HR2 := Lib.hid hr
    have HW := Lib.hid hown
    have hsz := hb.size
    clear hout hout2 hr HR hown
    have cF := full_any rest A2 c2 wr (HT1.out.below hb) (HR2.out.below hb)
    by_cases hf : fullP rest = true
    · rw [hf] at cF
      have CF := Lib.hid cF
      have hne := fullP_ne hf
      obtain ⟨hd1, hd2, hd3, hd4⟩ := dec_bounds rest hne
      have HS := Lib.hid (putAll_step hf)
      have hcl : rest.length ≤ c2 := by
        obtain ⟨A', c', e, hc, _⟩ := HR2.out
        injection e with e1 e2 e3
        subst e3
        simpa [byteVals] using hc.1
      have hcut : ∀ k, k ≤ rest.length → Holds1 w1 (.slice (cutA A2 c2 k) (rest.drop k).length (c2 - k)) (byteVals (rest.drop k)) := fun k hk => by
        have := HR2.out.cut hk
        rw [List.length_drop]
        simpa [byteVals] using this
      have HC := Lib.hid (hcut _ hd2)
      have hdec : ∀ W, Below wr.heap.size wr W → Calls Tryd.prog 62 #[.slice A2 rest.length c2] W fun e w' => e = .returned (.tuple #[.int .i32 (dec rest).1, .int .i64 (dec rest).2]) ∧ Below W.heap.size W w' :=
        fun W hW => decode_any rest A2 c2 W ((HT1.out.below hb).below hW) hne ((HR2.out.below hb).below hW)
      have CD := Lib.hid hdec
      clear hcut hf cF hne hdec
      generalize (dec rest).1 = x at *
      generalize (dec rest).2 = k at *
      have hroom' : (out.length + 1) * 4 ≤ 140737488355328 := by omega
      have h63 : out.length + 1 ≤ maxLen := by unfold maxLen; omega
      have HM := Lib.hid hroom'
      clear hroom'
      rcases Decidable.em (c2 = k) with rfl | hck
      all_goals
        go_wp2_with (first
          | (go_at_call 65; refine (CF.out).mono ?_; rintro e w2 ⟨rfl, hb2⟩)
          | (go_at_call 62; refine (CD.out _ (by exact hb2)).mono ?_; rintro e w3 ⟨rfl, hb3⟩)
          | (at_builtin; refine append_one w3 rfl _ _ 49 rfl w1.heap.size 21 i0 (.int .i32 0) 4 Tryd.underlying49 hi hz0 hz1 hz2 rfl _ out.length (runeVals out) rfl (by exact own_below (own_below HW.out hb2) hb3) (.int .i32 x) rfl rfl h63 HM.out (Nat.le_trans hsz (Nat.le_trans hb2.size hb3.size)) ?_; intro v' w4 hown' hb4))
        go_roundw
        case rel => exact put_step (A := A2) (c := c2) hd1 hlen hd2 (by omega) (by omega) (by simp [cutA, *]) HC.out HO.out HO2.out HS.out hown' (hb.trans ((hb2.mono hsz).trans ((hb3.mono (Nat.le_trans hsz hb2.size)).trans hb4)))
        case measure => simp [lenOf]; omega
    · have hf' : fullP rest = false := by simpa using hf
      rw [hf'] at cF
      have CF := Lib.hid cF
      have hshort := full_short hf'
      have HS := Lib.hid (putAll_stop hf')
      clear hf cF hf'
      go_wp2_with (first
          | (go_at_call 65; refine (CF.out).mono ?_; rintro e w2 ⟨rfl, hb2⟩)
          | (refine copy_held w2 rfl _ _ rfl g R OK.out (by exact (HD1.out.kept (hb.trans (hb2.mono hsz)))) rfl _ rest hshort rfl (by exact (HR2.out.below hb).below hb2) ?_; intro x0 x1 x2 w3 hx hd3 hg3; have HX := Lib.hid hx; clear hx; have hc4 : w3.cell? ⟨g, 6, none⟩ = some (.int .i64 R.n) := hd3.cell rfl; have hf4 : w3.frozen? ⟨g, 6, none⟩ = false := hd3.frozen 6))
      go_ret
      have e1 : (putAll S).1 = out := by rw [← HO.out, HS.out]; simp
      have e2 : (putAll S).2 = rest := by rw [← HO2.out, HS.out]
      have hg4 := hd3.count rest.length
      refine ⟨_, x0, x1, x2, rfl, ?_, by rw [e2]; exact HX.out, by rw [e2]; exact hg4.1, ?_⟩
      · rw [e1]
        exact own_base (own_only (own_only (own_below HW.out hb2) hg3 (by omega)) hg4.2 (by omega)) hs1
      · exact only_trans (only_after (HB1.out.trans ((hb.mono hs1).trans (hb2.mono (by omega)))) hg3) hg4.2


/-- what Flush leaves -/
def FlushPost (w : World) (g : Nat) (R : Raw) (h : List UInt8) (e : Ending) (w' : World) : Prop :=
  ∃ r : Value, e = .returned r ∧ w'.ownsRow w.heap.size 21 1 r (decAll h).length (runeVals (decAll h)) ∧ RawAt w' g (R.hold R.h0 R.h1 R.h2 0) ∧ w.grownBy w' (some g)

set_option maxRecDepth 1000000 in
theorem flush_any (g : Nat) (R : Raw) (w : World) (hT : Tabs w) (hd : RawAt w g R) (ok : RawOk R) :
    Calls Tryd.prog 30 #[.pointer (some ⟨g, 2, none⟩)] w (FlushPost w g R (heldOf R.h0 R.h1 R.h2 R.n)) := by
  have CU := Lib.hid (usable_any w g R hd)
  have hn := ok.n3
  have hc4 : w.cell? ⟨g, 6, none⟩ = some (.int .i64 R.n) := hd.cell rfl
  have hsl := slice_held g R.n hn
  have hl : (heldOf R.h0 R.h1 R.h2 R.n).length = R.n := by simp [heldOf]; omega
  have HH := Lib.hid (held_holds hd ok)
  have HD := Lib.hid hd
  have HT := Lib.hid hT
  have CR := Lib.hid (runes_any (heldOf R.h0 R.h1 R.h2 R.n) (.slice (some ⟨g, 3, none⟩) R.n 3) w.drew (hT.below (Below.refl _ _).drew) (HH.out.below (Below.refl _ _).drew) (by rw [hl]; omega))
  clear hd hT hl HH ok
  generalize heldOf R.h0 R.h1 R.h2 R.n = q at *
  go_enter Tryd.func30, Tryd.ntmps30
  go_wp2_with (go_at_call 44; refine (CU.out).mono ?_; rintro e w' ⟨rfl, rfl⟩)
  have hc4' : ({ heap := w.heap, tape := w.tape, drawn := w.drawn + 1, os := w.os, output := w.output } : World).cell? ⟨g, 6, none⟩ = some (.int .i64 R.n) := hc4
  go_still_tail 8, (by kernel_rfl)
  change wpList _ _ _ _ _ w.drew
  clear hc4' hc4 CU hsl
  go_wp2_with fail
  refine (CR.out).mono ?_
  rintro e w1 ⟨r1, rfl, ho1, hb1⟩
  have hB : Below w.heap.size w w1 := ((Below.refl w.heap.size w).drew).trans hb1
  have hd1 := HD.out.kept hB
  have hgw := HD.out.lt
  have hc : w1.cell? ⟨g, 6, none⟩ = some (.int .i64 R.n) := hd1.cell rfl
  have hf : w1.frozen? ⟨g, 6, none⟩ = false := hd1.frozen 6
  have HC := Lib.hid (hd1.count 0)
  have HO := Lib.hid ho1
  clear hd1 ho1
  go_wp2
  go_ret
  refine ⟨_, rfl, own_only HO.out HC.out.2 hgw, HC.out.1, only_after hB HC.out.2⟩
set_option maxRecDepth 1000000 in
theorem pending_any (g : Nat) (R : Raw) (w : World) (hd : RawAt w g R) :
    Calls Tryd.prog 37 #[.pointer (some ⟨g, 2, none⟩)] w fun e w' => e = .returned (.int .i64 R.n) ∧ w = w' := by
  have CU := Lib.hid (usable_any w g R hd)
  have hc4 : w.cell? ⟨g, 6, none⟩ = some (.int .i64 R.n) := hd.cell rfl
  clear hd
  go_enter Tryd.func37, Tryd.ntmps37
  go_wp2_with (go_at_call 44; refine (CU.out).mono ?_; rintro e w' ⟨rfl, rfl⟩)
  go_ret
  exact ⟨rfl, rfl⟩
end Go.Proofs.YtjoiagaadofndaaDoor
