/-
  What the document's own decoder, as a field of a struct, returns and holds behind Put and Flush.
-/
import Derived.Test.YtjoiagaadofndaaDoorPieceM
import Derived.Test.YtjoiagaadofndaaDoorRefRunes
import Derived.Lib.Hide
namespace Go.Proofs.YtjoiagaadofndaaDoor
open Go.RowKit Go.Lib

theorem headFrom_snd (s : List UInt8) (N f : Nat) : ∀ h, (headFrom s N f h).2 = N := by
  induction f with
  | zero => intro h; rfl
  | succ f ih =>
    intro h
    simp only [headFrom]
    split
    · split
      · rfl
      · exact ih _
    · rfl
theorem headP_zero (s : List UInt8) (h : (headP s).2 = 0) : (headP s).1 = 0 := by
  unfold headP at h ⊢
  split
  · rfl
  · split
    · rfl
    · next h0 h1 =>
      rw [if_neg h0, if_neg h1, headFrom_snd] at h
      exact absurd h h1

/-- a block whose cell 1 is a slice of bytes -/
structure SlotOk (mk : Value → Array Value) (T : TypeId) : Prop where
  get : ∀ B, (mk B)[1]? = some B
  set : ∀ B u, (mk B).setIfInBounds 1 u = mk u
  ne : T ≠ 5 ∧ T ≠ 21
def RefG (mk : Value → Array Value) (T : TypeId) (w : World) (q : Nat) (v : Value) : Prop := w.heap[q]? = some (.cells (mk v) T (0, 0))
section
variable {mk : Value → Array Value} {T : TypeId} {w : World} {q : Nat} {v : Value}
theorem RefG.lt (h : RefG mk T w q v) : q < w.heap.size := heap_lt h
theorem RefG.cell (h : RefG mk T w q v) (so : SlotOk mk T) : w.cell? ⟨q, 1, none⟩ = some v := (cell_of_row w q 1 _ _ _ h).trans (so.get v)
theorem RefG.frozen (h : RefG mk T w q v) : w.frozen? ⟨q, 1, none⟩ = false := frozen_of_row w q 1 _ _ h
theorem RefG.below {w' : World} (h : RefG mk T w q v) (hb : Below w.heap.size w w') : RefG mk T w' q v := (hb.block q h.lt).trans h
theorem RefG.set (h : RefG mk T w q v) (so : SlotOk mk T) (u : Value) : RefG mk T (w.setCell ⟨q, 1, none⟩ u) q u := by
  unfold RefG
  rw [heap_setCell_same w q 1 _ _ _ h, so.set]
theorem RefG.ne (h : RefG mk T w q v) (so : SlotOk mk T) {base : Nat} {B : Value} {s : List UInt8} (hB : OwnsAt w base B s) : ∀ j, B.ownBlock = some j → j ≠ q := by
  rintro j hj rfl
  obtain ⟨_, _, cur, hc⟩ := hB.block j hj
  unfold RefG at h
  rw [h] at hc
  injection hc with hc
  injection hc with _ ht
  exact so.ne.1 ht
theorem only2_set (w : World) (q : Nat) (row : Option Nat) (u : Value) : Only2 w (w.setCell ⟨q, 1, none⟩ u) q row :=
  ⟨rfl, rfl, rfl, by simp [World.setCell], fun k _ hk _ => Below.heap_setCell w ⟨q, 1, none⟩ u k hk⟩
end
theorem run_append_at2 {P : Program} (w : World) (base : Nat) (t ty : TypeId) (i : TypeInfo) (z : Value) (ht : P.underlying t = some (.slice 5)) (hi : P.info? 5 = some i) (hz : i.zero = some z)
    (hsize : i.size = 1) (hby : i.bytes = 1) (hzs : z.cells.size = 1) (v : Value) (h : List UInt8) (hown : OwnsAt w base v h) (v2 : Value) (p : List UInt8) (hr : Holds1 w v2 (byteVals p)) (hlen : h.length + p.length ≤ 4000000000) (hbase : base ≤ w.heap.size) :
    ∃ v' w', (Builtin.append_ #[t, t] ty #[v, v2]).run P w = .ok v' w' ∧ OwnsAt w' base v' (h ++ p) ∧ w.grownBy w' v.ownBlock ∧ (∀ k, v'.ownBlock = some k → v.ownBlock = some k ∨ w.heap.size ≤ k) := by
  have hm : h.length + p.length ≤ maxLen := by unfold maxLen; omega
  obtain ⟨A, c, rfl, ⟨hc, hnil⟩, hcells⟩ := hr
  rw [byteVals_length] at hc hcells ⊢
  cases A with
  | none =>
    obtain rfl := hnil rfl
    obtain rfl : p = [] := List.eq_nil_of_length_eq_zero (by omega)
    refine ⟨v, w, ?_, by simpa using hown, World.grownBy.refl w _, fun k hk => .inl hk⟩
    rcases hown with ⟨rfl, rfl⟩ | ⟨k, off, cap, cur, rfl, _, _, h1, _⟩
    · simp [Builtin.append_, run_underlying ht, sizeOf, typeInfo, hi, Builtin.lenOf, Builtin.firstCells]
    · simp [Builtin.append_, run_underlying ht, sizeOf, typeInfo, hi, Builtin.lenOf, Builtin.firstCells, h1, storeCells]
  | some a =>
    have hnews : ∀ j u, (byteVals p)[j]? = some u → w.cell? (a.add j) = some u := fun j u hu => by
      have hl : j < (byteVals p).length := (List.getElem?_eq_some_iff.1 hu).1
      rw [byteVals_length] at hl
      obtain ⟨b, off, hA, _, hcell⟩ := hcells (by omega)
      injection hA with hA
      subst hA
      have := hcell j u hu
      unfold Addr.add
      split
      · next e0 => subst e0; exact this
      · exact this
    rcases hown with ⟨rfl, rfl⟩ | ⟨k, off, cap, cur, rfl, hb, hk, h1, h2, h3, h4⟩
    · obtain ⟨v', w', hrun, ho, hg, _⟩ := run_append_own (P := P) w w.heap.size t ty 5 i z 1 1 ht hi hz hsize hby hzs (by decide) (.slice none 0 0) 0 [] (World.ownsRow_nil w w.heap.size _ 1) a p.length c (byteVals p) (by rw [byteVals_length]; omega) hnews (byteVals_one p) (by unfold maxLen; simp at hlen; omega) (by simp at hlen; omega) (Nat.le_refl _)
      exact ⟨v', w', hrun, OwnsAt.of_row (by simpa using own_base ho hbase), hg, fun k hk => .inr (own_lt ho k hk).1⟩
    · by_cases hroom : h.length + p.length ≤ cap
      · have hrun := run_append_inside (P := P) w t ty 5 i ht hi hsize k off h.length cap cur hk a p.length c (byteVals p) (byteVals_length p) hnews (byteVals_one p) hroom (by rw [byteVals_length]; omega)
        refine ⟨_, _, hrun, .inr ⟨k, off, cap, _, by rw [List.length_append], hb, setRow_heap w k cur _ _ _ hk, by rw [List.length_append]; exact hroom, h2, ?_, ?_⟩, ⟨rfl, rfl, rfl, by simp [World.setRow], fun j _ hj => setRow_other w k j _ (fun e => hj (by simp [Value.ownBlock, e]))⟩, fun j hj => .inl hj⟩
        · simp only [List.size_toArray, List.length_append, List.length_take, List.length_drop, Array.length_toList, byteVals_length]
          omega
        · have e1 : (cur.toList.take (off + h.length)).drop off = byteVals h := by
            rw [List.drop_take, ← h4]
            congr 1
            omega
          have e2 : off ≤ (cur.toList.take (off + h.length)).length := by
            have hcl : cur.toList.length = cur.size := Array.length_toList
            rw [List.length_take]
            omega
          rw [List.length_append, byteVals_append, List.append_assoc, List.drop_append_of_le_length e2, e1, ← List.append_assoc]
          have e3 : h.length + p.length = (byteVals h ++ byteVals p).length := by rw [List.length_append, byteVals_length, byteVals_length]
          rw [e3]
          exact List.take_left
      · obtain ⟨v', w', hrun, ho, hg⟩ := run_append_arg_grows (P := P) w t ty 5 i z 1 1 ht hi hz hsize hby hzs (by decide) ⟨k, off, none⟩ h.length cap (byteVals h) (by rw [byteVals_length]; omega) (fun j u hu => by
            have := seg_cell hk h4 j u hu
            unfold Addr.add
            split
            · next e0 => subst e0; exact this
            · exact this) a p.length c (byteVals p) (by rw [byteVals_length]; omega) hnews (by omega) hm (by omega)
        refine ⟨v', w', hrun, OwnsAt.of_row (n := h.length + p.length) (own_base (by rw [byteVals_append]; exact ho) hbase), ⟨hg.os, hg.tape, hg.output, hg.size, fun j hj _ => hg.block j hj (by simp)⟩, fun k hk => .inr (own_lt ho k hk).1⟩

theorem append_at2 {P : Program} {ops : Array Oper} {rest : List Oper} {o : Oper} {a : Act} {Q : Exit → Act → World → Prop} (w : World) (hgd : o.guard = none) (s x : Operand) (t : TypeId)
    (ho : o.op = .call { callee := .builtin .append, args := #[s, x], argTypes := #[t, t] })
    (base : Nat) (i : TypeInfo) (z : Value) (ht : P.underlying t = some (.slice 5)) (hi : P.info? 5 = some i) (hz : i.zero = some z) (hsize : i.size = 1) (hby : i.bytes = 1) (hzs : z.cells.size = 1)
    (v : Value) (h : List UInt8) (hs : a.eval s = v) (hown : OwnsAt w base v h) (v2 : Value) (p : List UInt8) (hx : a.eval x = v2) (hr : Holds1 w v2 (byteVals p)) (hlen : h.length + p.length ≤ 4000000000) (hbase : base ≤ w.heap.size)
    (hgo : ∀ v' w', OwnsAt w' base v' (h ++ p) → w.grownBy w' v.ownBlock → (∀ k, v'.ownBlock = some k → v.ownBlock = some k ∨ w.heap.size ≤ k) → wpList P ops Q rest (a.put o.dst v') w') : wpList P ops Q (o :: rest) a w := by
  obtain ⟨v', w', hrun, h1, h2, h3⟩ := run_append_at2 (P := P) w base t o.type i z ht hi hz hsize hby hzs v h hown v2 p hr hlen hbase
  refine wpList_plain hgd fun K hK => ?_
  unfold Oper.wp
  simp [execOp, ho, resolve, invoke, builtin, hs, hx, hrun, Result.andThen]
  exact hK _ _ (hgo v' w' h1 h2 h3)

/-- what Put leaves -/
def RefGPost (mk : Value → Array Value) (T : TypeId) (w : World) (q base : Nat) (B : Value) (s : List UInt8) (e : Ending) (w' : World) : Prop :=
  ∃ r B', e = .returned r ∧ w'.ownsRow w.heap.size 21 1 r (putAll s).1.length (runeVals (putAll s).1) ∧ RefG mk T w' q B' ∧ OwnsAt w' base B' (putAll s).2 ∧ Only2 w w' q B.ownBlock ∧ ∀ k, B'.ownBlock = some k → B.ownBlock = some k ∨ w.heap.size ≤ k

/-- the loop of Put -/
def RefGRel (mk : Value → Array Value) (T : TypeId) (P : Nat → Prop) (S : List UInt8) (w : World) (q base : Nat) (l : Value) (wr : World) : Prop :=
  ∃ (rest : List UInt8) (out : List Int) (A : Option Addr) (c : Nat), RefG mk T wr q (.slice A rest.length c) ∧ OwnsAt wr base (.slice A rest.length c) rest ∧ out ++ (putAll rest).1 = (putAll S).1 ∧ (putAll rest).2 = (putAll S).2 ∧
    rest.length + out.length ≤ S.length ∧ wr.ownsRow w.heap.size 21 1 l out.length (runeVals out) ∧ (∀ a, A = some a → a.block < w.heap.size ∧ P a.block) ∧ Only2 w wr q none

/-- a round that tells a rune: the row grew (w4), then the decoder was written -/
theorem refG_step {mk : Value → Array Value} {T : TypeId} {P : Nat → Prop} (so : SlotOk mk T) {S rest : List UInt8} {out : List Int} {w wr w4 : World} {q base k x c m m' : Nat} {A A' : Option Addr} {v' : Value} (hqw0 : q < w.heap.size) (hk : 1 ≤ k) (hlen : rest.length + out.length ≤ S.length) (hkr : k ≤ rest.length)
    (hm : m = rest.length - k) (hm' : m' = c - k) (hA : A' = cutA A c k) (hq : RefG mk T wr q (.slice A rest.length c)) (hB : OwnsAt wr base (.slice A rest.length c) rest) (HO : out ++ (putAll rest).1 = (putAll S).1) (HO2 : (putAll rest).2 = (putAll S).2)
    (HS : putAll rest = ((x : Int) :: (putAll (rest.drop k)).1, (putAll (rest.drop k)).2)) (hfr : Only2 w wr q none) (hAl : ∀ a, A = some a → a.block < w.heap.size ∧ P a.block)
    (hown : w4.ownsRow w.heap.size 21 1 v' (out.length + 1) (runeVals out ++ [.int .i32 (x : Int)])) (hb : Below w.heap.size wr w4) :
    RefGRel mk T P S w q base v' (w4.setCell ⟨q, 1, none⟩ (.slice A' m m')) := by
  subst hm hm' hA
  have hqw : q < w.heap.size := hqw0
  have hq4 : RefG mk T w4 q (.slice A rest.length c) := (hb.block q hqw).trans hq
  have hd : rest.length - k = (rest.drop k).length := by rw [List.length_drop]
  have hB4 := (hB.kept (w' := w4) fun j hj => hb.block j (by
    cases A with
    | none => cases hj
    | some a =>
      injection hj with hj
      subst hj
      exact (hAl a rfl).1)).cut hkr
  rw [hd] at hB4 ⊢
  refine ⟨rest.drop k, out ++ [(x : Int)], cutA A c k, c - k, hq4.set so _, ?_, ?_, ?_, ?_, ?_, ?_, ?_⟩
  · refine hB4.kept fun j hj => Below.heap_setCell w4 ⟨q, 1, none⟩ _ j ?_
    exact hq4.ne so hB4 j hj
  · rw [← HO, HS]; simp
  · rw [← HO2, HS]
  · rw [List.length_drop, List.length_append, List.length_singleton]; omega
  · have := ownsRow_setCell_below hown (a := ⟨q, 1, none⟩) hqw (.slice (cutA A c k) (rest.drop k).length (c - k))
    simpa [runeVals] using this
  · intro a ha
    unfold cutA at ha
    split at ha
    · exact hAl a ha
    · cases A with
      | none => cases ha
      | some a0 =>
        have : a0.add k = a := by simpa using ha
        subst this
        have := hAl a0 rfl
        unfold Addr.add
        split <;> exact this
  · refine ⟨hb.os.trans hfr.os, hb.tape.trans hfr.tape, hb.output.trans hfr.output, Nat.le_trans hfr.size (Nat.le_trans hb.size (by simp [World.setCell])), fun j hj h1 h2 => ?_⟩
    exact (Below.heap_setCell w4 ⟨q, 1, none⟩ _ j h1).trans ((hb.block j hj).trans (hfr.block j hj h1 h2))

set_option maxRecDepth 100000 in
set_option maxHeartbeats 4000000 in
theorem refGPut_any {mk : Value → Array Value} {T : TypeId} (so : SlotOk mk T) (s h : List UInt8) (v B : Value) (q base : Nat) (w : World) (hq : RefG mk T w q B) (hbw : base ≤ w.heap.size) (hB : OwnsAt w base B h) (hv : Holds1 w v (byteVals s)) (hroom : h.length + s.length ≤ 400000000) :
    Calls Tryd.prog 50 #[.pointer (some ⟨q, 1, none⟩), v] w (RefGPost mk T w q base B (h ++ s)) := by
  obtain ⟨i5, hi5, hz50, hz51, hz52⟩ := info_parts info_byte
  obtain ⟨i21, hi21, hz210, hz211, hz212⟩ := info_parts info_rune
  have hc0 := hq.cell so
  have HQ := Lib.hid hq
  have HB := Lib.hid hB
  have HV := Lib.hid hv
  clear hq hB hv
  go_enter Tryd.func50, Tryd.ntmps50
  go_wp2_with (at_builtin; refine append_at2 w rfl _ _ 22 rfl base i5 (.int .u8 0) Tryd.underlying22 hi5 hz50 hz51 hz52 rfl B h rfl (by exact HB.out) v s rfl (by exact HV.out) (by omega) hbw ?_; intro B1 w1 hB1 hg1 hp1; obtain ⟨A1, c1, rfl⟩ := hB1.shape; have HPP := Lib.hid hp1; clear hp1; have HB1 := Lib.hid hB1; have HG1 := Lib.hid hg1; have hq1 : RefG mk T w1 q B := (hg1.block q HQ.out.lt (fun e => HQ.out.ne so HB.out q e.symm rfl)).trans HQ.out; have hc1 := hq1.cell so; have hf1 := hq1.frozen; have HQ1 := Lib.hid hq1; clear hB1 hg1 hq1)
  have hL : (h ++ s).length = h.length + s.length := List.length_append
  have hq2 := HQ1.out.set so (.slice A1 (h.length + s.length) c1)
  have hB2 : OwnsAt (w1.setCell ⟨q, 1, none⟩ (.slice A1 (h.length + s.length) c1)) base (.slice A1 (h ++ s).length c1) (h ++ s) := HB1.out.kept fun j hj => Below.heap_setCell w1 ⟨q, 1, none⟩ _ j (HQ1.out.ne so HB1.out j hj)
  have hf2 : Only2 w (w1.setCell ⟨q, 1, none⟩ (.slice A1 (h.length + s.length) c1)) q B.ownBlock := (Only2.of_grown HG1.out).trans (only2_set _ _ _ _)
  have hl2 : (h ++ s).length ≤ 400000000 := by rw [List.length_append]; exact hroom
  generalize w1.setCell ⟨q, 1, none⟩ (.slice A1 (h.length + s.length) c1) = wS at *
  rw [← hL] at hq2
  clear hL
  generalize h ++ s = S at *
  clear hc0 hc1 hf1 HQ1 HB1 HG1 HQ HB HV hroom
  have hqs := hq2.lt
  have HQ2 := Lib.hid hq2
  have HB2 := Lib.hid hB2
  have HF2 := Lib.hid hf2
  have hs2 := hf2.size
  clear hq2 hB2 hf2
  go_loopw [5] (fun l wr => RefGRel mk T (fun k => B.ownBlock = some k ∨ w.heap.size ≤ k) S wS q base l wr) (fun _ wr => lenOf ((wr.cell? ⟨q, 1, none⟩).getD (.slice none 0 0)))
  case atStart => exact ⟨S, [], A1, c1, HQ2.out, HB2.out, rfl, rfl, by simp, World.ownsRow_nil _ _ _ _, fun a ha => (by subst ha; exact ⟨(HB2.out.block _ rfl).2.1, HPP.out _ rfl⟩), Only2.refl _ _ _⟩
  case round =>
    obtain ⟨rest, out, A, c, hq, hB, hout, hout2, hlen, hown, hAl, hfr⟩ := hrel
    have hcell := hq.cell so
    have hfro := hq.frozen
    have HO := Lib.hid hout
    have HO2 := Lib.hid hout2
    have HW := Lib.hid hown
    have HQ := Lib.hid hq
    have HB := Lib.hid hB
    have HA := Lib.hid hAl
    have HF := Lib.hid hfr
    have hsz := hfr.size
    clear hout hout2 hown hq hB hAl hfr
    by_cases hlt : rest = []
    · subst hlt
      go_wp2
      go_ret
      have e1 : (putAll S).1 = out := by rw [← HO.out, putAll_stop fullP_nil]; simp
      have e2 : (putAll S).2 = [] := by rw [← HO2.out, putAll_stop fullP_nil]
      refine ⟨_, _, rfl, ?_, HQ.out, by rw [e2]; exact HB.out, HF2.out.trans (HF.out.more _), fun k hk => by cases A with | none => cases hk | some a => injection hk with hk; subst hk; exact (HA.out a rfl).2⟩
      rw [e1]
      exact own_base HW.out hs2
    · have hp : 0 < rest.length := List.length_pos_iff.2 hlt
      have hqw : q < wS.heap.size := hqs
      have CH := Lib.hid (head_any rest A c wr HB.out.holds (by omega))
      have hcl : rest.length ≤ c := by
        obtain ⟨A', c', e, hc, _⟩ := HB.out.holds
        injection e with e1 e2 e3
        subst e3
        simpa [byteVals] using hc.1
      have hroom' : (out.length + 1) * 4 ≤ 140737488355328 := by omega
      have h63 : out.length + 1 ≤ maxLen := by unfold maxLen; omega
      have HM := Lib.hid hroom'
      have hkeep : ∀ W, Below wS.heap.size wr W → W.cell? ⟨q, 1, none⟩ = some (.slice A rest.length c) ∧ W.frozen? ⟨q, 1, none⟩ = false := fun W hW => ⟨(hW.cell (p := ⟨q, 1, none⟩) hqw).trans hcell, (hW.frozen (p := ⟨q, 1, none⟩) hqw).trans hfro⟩
      have HK := Lib.hid hkeep
      have hfw := full_waits rest hlt
      clear hroom' hkeep
      by_cases hf : isFull rest = true
      · have hstep := putAll_step (r := rest) (by rw [hfw, hf]; rfl)
        obtain ⟨q1, q2, q3, q4, q5⟩ := full_facts hlt hf
        rw [q5] at hstep
        have HS := Lib.hid hstep
        rw [q1] at CH
        have CV := Lib.hid (fun W (hW : Below wr.heap.size wr W) c' => value_of rest A c (headP rest).2 W (HB.out.holds.below hW) q2 q3 q4 c')
        clear hstep q5 hf q1 hlt hfw
        generalize (headP rest).2 = k at *
        generalize valN k (byteAt rest 0) (byteAt rest 1) (byteAt rest 2) (byteAt rest 3) = x at *
        have hk0 : (0 : Int) < (k : Int) := by omega
        rcases Decidable.em (c = k) with rfl | hck
        all_goals
          go_wp2_with (first
            | (go_at_call 63; refine (CH.out).mono ?_; rintro e w1 ⟨rfl, hd1⟩; have hb1 := hd1.below; obtain ⟨hc1, hf1⟩ := HK.out w1 (hb1.mono hsz); clear hd1)
            | (go_at_call 64; refine (CV.out _ (by exact hb1) _).mono ?_; rintro e w2 ⟨rfl, hd2⟩; have hb2 := hd2.below; clear hd2)
            | (at_builtin; refine append_one w2 rfl _ _ 49 rfl wS.heap.size 21 i21 (.int .i32 0) 4 Tryd.underlying49 hi21 hz210 hz211 hz212 rfl _ out.length (runeVals out) rfl (by exact own_below (own_below HW.out hb1) hb2) (.int .i32 x) rfl rfl h63 HM.out (Nat.le_trans hsz (Nat.le_trans hb1.size hb2.size)) ?_; intro v' w3 hown' hb3; have hB3 := (hb1.mono hsz).trans ((hb2.mono (Nat.le_trans hsz hb1.size)).trans hb3); obtain ⟨hc3, hf3⟩ := HK.out w3 hB3))
          go_roundw
          case rel => exact refG_step so (A := A) (c := c) hqw q2 hlen q4 (by omega) (by omega) (by simp [cutA, *]) HQ.out HB.out HO.out HO2.out HS.out HF.out HA.out hown' hB3
          case measure =>
            have h3 : RefG mk T w3 q (.slice A rest.length _) := (hB3.block q hqw).trans HQ.out
            rw [(h3.set so _).cell so, HQ.out.cell so]
            simp [lenOf]
            omega
      · have hno : ¬ ((headP rest).1 = (headP rest).2 ∧ 0 < (headP rest).2) := by simpa [isFull] using hf
        have hz := headP_zero rest
        have hff : isFull rest = false := by simpa using hf
        by_cases hw : waits rest = true
        · have HS := Lib.hid (putAll_stop (r := rest) (by rw [hfw, hff, hw]; rfl))
          have hw' : 0 < (headP rest).1 ∧ (headP rest).1 = rest.length := by simpa [waits] using hw
          obtain ⟨hw1, hw2⟩ := hw'
          clear hfw hf hw hff hlt
          generalize (headP rest).1 = a at *
          generalize (headP rest).2 = n at *
          have hq : ((a : Int) == (n : Int)) = false := by rw [beq_eq_false_iff_ne]; omega
          have hn0 : 0 < n := by omega
          clear hno hz
          go_wp2_with (go_at_call 63; refine (CH.out).mono ?_; rintro e w1 ⟨rfl, hd1⟩; have hb1 := hd1.below; obtain ⟨hc1, hf1⟩ := HK.out w1 (hb1.mono hsz); clear hd1)
          go_ret
          have e1 : (putAll S).1 = out := by rw [← HO.out, HS.out]; simp
          have e2 : (putAll S).2 = rest := by rw [← HO2.out, HS.out]
          refine ⟨_, _, rfl, ?_, HQ.out.below hb1, by rw [e2]; exact HB.out.below hb1, HF2.out.trans ((HF.out.trans (Only2.of_below hb1)).more _), fun k hk => by cases A with | none => cases hk | some a => injection hk with hk; subst hk; exact (HA.out a rfl).2⟩
          rw [e1]
          exact own_base (own_below HW.out hb1) hs2
        · have hww : waits rest = false := by simpa using hw
          have hstep := putAll_step (r := rest) (by rw [hfw, hff, hww]; rfl)
          have hd := head_dec rest hlt
          rw [if_neg hf] at hd
          rw [hd] at hstep
          have HS := Lib.hid hstep
          have hw' : ¬ (0 < (headP rest).1 ∧ (headP rest).1 = rest.length) := by simpa [waits] using hw
          clear hfw hf hw hff hlt hww hstep hd
          generalize (headP rest).1 = a at *
          generalize (headP rest).2 = n at *
          have hcase : (a = 0 ∧ n = 0) ∨ (a = 0 ∧ 0 < n) ∨ (0 < a ∧ 0 < n ∧ a ≠ n ∧ a ≠ rest.length) := by omega
          clear hno hz hw'
          rcases hcase with ⟨rfl, rfl⟩ | ⟨rfl, h1⟩ | ⟨h1, h2, h3, h4⟩
          · rcases Decidable.em (c = 1) with rfl | hck
            all_goals
              go_wp2_with (first
                  | (go_at_call 63; refine (CH.out).mono ?_; rintro e w1 ⟨rfl, hd1⟩; have hb1 := hd1.below; obtain ⟨hc1, hf1⟩ := HK.out w1 (hb1.mono hsz); clear hd1)
                  | (at_builtin; refine append_one w1 rfl _ _ 49 rfl wS.heap.size 21 i21 (.int .i32 0) 4 Tryd.underlying49 hi21 hz210 hz211 hz212 rfl _ out.length (runeVals out) rfl (by exact own_below HW.out hb1) (.int .i32 (65533 : Nat)) rfl rfl h63 HM.out (Nat.le_trans hsz hb1.size) ?_; intro v' w3 hown' hb3; have hB3 := (hb1.mono hsz).trans hb3; obtain ⟨hc3, hf3⟩ := HK.out w3 hB3))
              go_roundw
              case rel => exact refG_step so (A := A) (k := 1) (x := 65533) hqw (by omega) hlen (by omega) (by omega) (by first | rfl | omega) (by simp [cutA, Addr.add, *]) HQ.out HB.out HO.out HO2.out HS.out HF.out HA.out hown' hB3
              case measure =>
                have h3 : RefG mk T w3 q (.slice A rest.length _) := (hB3.block q hqw).trans HQ.out
                rw [(h3.set so _).cell so, HQ.out.cell so]
                simp [lenOf]
                omega
          · have hq : ((0 : Int) == (n : Int)) = false := by rw [beq_eq_false_iff_ne]; omega
            rcases Decidable.em (c = 1) with rfl | hck
            all_goals
              go_wp2_with (first
                  | (go_at_call 63; refine (CH.out).mono ?_; rintro e w1 ⟨rfl, hd1⟩; have hb1 := hd1.below; obtain ⟨hc1, hf1⟩ := HK.out w1 (hb1.mono hsz); clear hd1)
                  | (at_builtin; refine append_one w1 rfl _ _ 49 rfl wS.heap.size 21 i21 (.int .i32 0) 4 Tryd.underlying49 hi21 hz210 hz211 hz212 rfl _ out.length (runeVals out) rfl (by exact own_below HW.out hb1) (.int .i32 (65533 : Nat)) rfl rfl h63 HM.out (Nat.le_trans hsz hb1.size) ?_; intro v' w3 hown' hb3; have hB3 := (hb1.mono hsz).trans hb3; obtain ⟨hc3, hf3⟩ := HK.out w3 hB3))
              go_roundw
              case rel => exact refG_step so (A := A) (k := 1) (x := 65533) hqw (by omega) hlen (by omega) (by omega) (by first | rfl | omega) (by simp [cutA, Addr.add, *]) HQ.out HB.out HO.out HO2.out HS.out HF.out HA.out hown' hB3
              case measure =>
                have h3 : RefG mk T w3 q (.slice A rest.length _) := (hB3.block q hqw).trans HQ.out
                rw [(h3.set so _).cell so, HQ.out.cell so]
                simp [lenOf]
                omega
          · have hq : ((a : Int) == (n : Int)) = false := by rw [beq_eq_false_iff_ne]; omega
            have hq' : ((a : Int) == (rest.length : Int)) = false := by rw [beq_eq_false_iff_ne]; omega
            rcases Decidable.em (c = 1) with rfl | hck
            all_goals
              go_wp2_with (first
                  | (go_at_call 63; refine (CH.out).mono ?_; rintro e w1 ⟨rfl, hd1⟩; have hb1 := hd1.below; obtain ⟨hc1, hf1⟩ := HK.out w1 (hb1.mono hsz); clear hd1)
                  | (at_builtin; refine append_one w1 rfl _ _ 49 rfl wS.heap.size 21 i21 (.int .i32 0) 4 Tryd.underlying49 hi21 hz210 hz211 hz212 rfl _ out.length (runeVals out) rfl (by exact own_below HW.out hb1) (.int .i32 (65533 : Nat)) rfl rfl h63 HM.out (Nat.le_trans hsz hb1.size) ?_; intro v' w3 hown' hb3; have hB3 := (hb1.mono hsz).trans hb3; obtain ⟨hc3, hf3⟩ := HK.out w3 hB3))
              go_roundw
              case rel => exact refG_step so (A := A) (k := 1) (x := 65533) hqw (by omega) hlen (by omega) (by omega) (by first | rfl | omega) (by simp [cutA, Addr.add, *]) HQ.out HB.out HO.out HO2.out HS.out HF.out HA.out hown' hB3
              case measure =>
                have h3 : RefG mk T w3 q (.slice A rest.length _) := (hB3.block q hqw).trans HQ.out
                rw [(h3.set so _).cell so, HQ.out.cell so]
                simp [lenOf]
                omega

theorem refGFlush_any {mk : Value → Array Value} {T : TypeId} (so : SlotOk mk T) (h : List UInt8) (B : Value) (q base : Nat) (w : World) (hq : RefG mk T w q B) (hB : OwnsAt w base B h) (hroom : h.length ≤ 400000000) :
    Calls Tryd.prog 32 #[.pointer (some ⟨q, 1, none⟩)] w fun e w' => ∃ r, e = .returned r ∧ w'.ownsRow w.heap.size 21 1 r (decAll h).length (runeVals (decAll h)) ∧ RefG mk T w' q (.slice none 0 0) ∧ Only2 w w' q none := by
  have hc := hq.cell so
  have HQ := Lib.hid hq
  have CR := Lib.hid (refRunes_any h B w hB.holds (by omega))
  clear hq hB
  go_enter Tryd.func32, Tryd.ntmps32
  go_wp2_with (go_at_call 47; refine (CR.out).mono ?_; rintro e w1 ⟨r1, rfl, ho1, hb1⟩; have hc1 := (HQ.out.below hb1).cell so; have hf1 := (HQ.out.below hb1).frozen; have HO := Lib.hid ho1; clear ho1)
  go_ret
  exact ⟨_, rfl, ownsRow_setCell_below HO.out (a := ⟨q, 1, none⟩) HQ.out.lt _, (HQ.out.below hb1).set so _, (Only2.of_below hb1).trans (only2_set _ _ _ _)⟩

end Go.Proofs.YtjoiagaadofndaaDoor
