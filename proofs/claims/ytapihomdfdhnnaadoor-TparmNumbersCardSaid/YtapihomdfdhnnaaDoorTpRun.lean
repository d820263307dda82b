/-
  How package tparm carries out a string: one sequence behind the other.
-/
import Derived.Test.YtapihomdfdhnnaaDoorTpDo
import Derived.Deep.RegionLaw
import Derived.Laws.BytesArg
import Derived.Laws.IdiomStrings
namespace Go.Proofs.YtapihomdfdhnnaaDoor
open Go.RowKit Go.Shelf Go.Lib
attribute [local go_sem] Oper.semAt_some

def isBranch (v : UInt8) : Bool := v == 63 || v == 116 || v == 101 || v == 59
/-- what sequences come to: from a place on, by what branches and what the others do -/
def runFrom (br : Nat → MD → Nat × MD) (dd : ItemD → MD → Int × MD) (l : List ItemD) : Nat → Nat → MD → List UInt8 × Int × Int
  | 0, _, _ => ([], 0, 0)
  | n + 1, i, m => match l[i]? with
    | none => (m.out, 0, 0)
    | some it =>
      if it.verb = 0 then (if 16384 < m.out.length + it.text.length then ([], (it.pos : Int) + (16384 - m.out.length), 3) else runFrom br dd l n (i + 1) { m with out := m.out ++ it.text })
      else if isBranch it.verb then runFrom br dd l n ((br i m).1 + 1) (br i m).2
      else if (dd it m).1 ≠ 0 then ([], it.pos, (dd it m).1) else runFrom br dd l n (i + 1) (dd it m).2
theorem ItemRow.cells {W : World} {B n cap : Nat} {A : Option Addr} {l : List ItemD} (h : ItemRow W B (.slice A n cap) l) {i : Nat} {p : ItemD} (hi : l[i]? = some p) : ∃ g, A = some ⟨g, 0, none⟩ ∧ n ≤ cap ∧ n = l.length ∧ g < W.heap.size ∧ ∀ j v, (itemCells p)[j]? = some v → W.cell? ⟨g, i * 11 + j, none⟩ = some v := by
  obtain ⟨h1, h2⟩ := h
  have hlt := (List.getElem?_eq_some_iff.1 hi).1
  rcases h2 with ⟨e, h0⟩ | ⟨g, cap', cur, e, hb, hh, hn, hcm, hs, ht⟩
  · omega
  · injection e with e1 e2 e3
    subst e1 e2 e3
    refine ⟨g, rfl, hn, rfl, (Array.getElem?_eq_some_iff.1 hh).1, fun j v hv => ?_⟩
    have hj : j < 11 := (List.getElem?_eq_some_iff.1 hv).1
    rw [cell_of_row W g (i * 11 + j) cur _ (0, 0) hh, ← hv, ← itemVals_at hi j hj, ← ht, List.getElem?_take_of_lt (by omega), Array.getElem?_toList]
theorem step_append_text {ops : Array Oper} {o : Oper} {a : Act} {w : World} {K : Act → World → Prop} {Q : Exit → Act → World → Prop} {E : Prop} (hgd : o.guard = none) (s x : Operand)
    (ho : o.op = .call { callee := .builtin .append, args := #[s, x], argTypes := #[51, 9] }) (B : Nat) (v : Value) (l : List UInt8) (hs : a.eval s = v) (hrow : ByteRow w B v l) (y : List UInt8) (hx : a.eval x = str y) (hl : l.length + y.length ≤ 4000000) (hB : B ≤ w.heap.size)
    (h : ∀ v' w', ByteRow w' B v' (l ++ y) → w.grownBy w' v.ownBlock → K (a.put o.dst v') w') :
    if Region.wanted o (yielded ops a.tmps) = true then Oper.wp Tryd.prog o a w K Q else E := by
  have hw : Region.wanted o (yielded ops a.tmps) = true := by simp [Region.wanted, hgd]
  rw [if_pos hw]
  obtain ⟨v', w', hrun, r1, r2⟩ := run_append_text w B o.type v l hrow y hl hB
  unfold Oper.wp
  simp [execOp, ho, resolve, invoke, builtin, hs, hx, hrun, Result.andThen]
  exact h v' w' r1 r2
/-- what is asked of what branches and the others do -/
structure Does (l : List ItemD) (br : Nat → MD → Nat × MD) (dd : ItemD → MD → Int × MD) : Prop where
  other : ∀ it ∈ l, it.verb ≠ 0 → isBranch it.verb = false → DoSpec it (dd it) ∧ ∀ m, MOk m → MOk (dd it m).2
  branch : ∀ (i : Nat) (it : ItemD), l[i]? = some it → isBranch it.verb = true → (∀ m, i ≤ (br i m).1 ∧ (br i m).1 ≤ l.length) ∧ (∀ m, MOk m → MOk (br i m).2) ∧ ∀ (W : World) (B : Nat) (K : Nat → Prop) (mb vb bm : Nat) (m : MD) (A : Option Addr) (cap B0 : Nat), MachX W B K mb vb bm m → ItemRow W B0 (.slice A l.length cap) l → Calls Tryd.prog 30 #[.pointer (some ⟨mb, 0, none⟩), .slice A l.length cap, .int .i64 i] W (OpPost W B K mb vb bm (br i m).2 (.int .i64 ((br i m).1 : Int)))
def RunPost (w : World) (B : Nat) (K : Nat → Prop) (bm : Nat) (r : List UInt8 × Int × Int) (e : Ending) (w' : World) : Prop := e = .returned (.tuple #[str r.1, .int .i64 r.2.1, .int .i64 r.2.2]) ∧ Touch (Turns B bm K) w w'
/-- between two sequences -/
def RunI (w : World) (B : Nat) (K : Nat → Prop) (mb vb bm : Nat) (br : Nat → MD → Nat × MD) (dd : ItemD → MD → Int × MD) (l : List ItemD) (r : List UInt8 × Int × Int) (a : Value) (W : World) : Prop :=
  ∃ (i : Nat) (m : MD) (N : Nat), a = .int .i64 i ∧ i ≤ l.length + 1 ∧ MachX W B K mb vb bm m ∧ MOk m ∧ Touch (Turns B bm K) w W ∧ l.length + 1 < N + i ∧ r = runFrom br dd l N i m
theorem RunI.next {w W : World} {B : Nat} {K : Nat → Prop} {mb vb bm : Nat} {br : Nat → MD → Nat × MD} {dd : ItemD → MD → Int × MD} {l : List ItemD} {r : List UInt8 × Int × Int} {i j N : Nat} {m m' : MD} {it : ItemD} (hi : l[i]? = some it) (hij : i < j) (hj : j ≤ l.length + 1) (hm : MachX W B K mb vb bm m') (hok : MOk m') (ht : Touch (Turns B bm K) w W)
    (hN : l.length + 1 < N + i) (hr : r = runFrom br dd l N i m) (hs : ∀ n, runFrom br dd l (n + 1) i m = runFrom br dd l n j m') {a : Value} (ha : a = .int .i64 (j : Int)) : RunI w B K mb vb bm br dd l r a W := by
  subst ha
  have hlt := (List.getElem?_eq_some_iff.1 hi).1
  obtain ⟨n, rfl⟩ : ∃ n, N = n + 1 := ⟨N - 1, by omega⟩
  exact ⟨j, m', n, rfl, hj, hm, hok, ht, by omega, by rw [hr, hs]⟩
theorem out_bytes {W : World} {B mb vb bm : Nat} {K : Nat → Prop} {pv sv ov : Value} {m : MD} (h : MachAt W B K mb vb bm pv sv ov m) : ∃ A cap, ov = .slice A m.out.length cap ∧ m.out.length ≤ cap ∧ Src W 1 A cap m.out.length (byteVals m.out) := own_src h.orow

set_option maxRecDepth 1000000 in
theorem conv_row {W : World} {B n cap : Nat} {A : Option Addr} {s : List UInt8} (h : ByteRow W B (.slice A n cap) s) : (convert 51 9 (.slice A n cap)).run Tryd.prog W = .ok (str s) W := by
  obtain ⟨h1, h2⟩ := h
  rcases h2 with ⟨e, h0⟩ | ⟨g, cap', cur, e, hb, hh, hn, hcm, hs, ht⟩
  · injection e with e1 e2 e3
    subst e1
    have hs : s = [] := List.eq_nil_of_length_eq_zero h0
    subst hs
    exact run_convert_bytes_nil (P := Tryd.prog) W 51 5 Tryd.underlying51 Tryd.underlying5 n cap 9 Tryd.underlying9
  · injection e with e1 e2 e3
    subst e1 e2 e3
    refine run_convert_bytes_back (P := Tryd.prog) W 51 9 5 ⟨g, 0, none⟩ cap s Tryd.underlying51 Tryd.underlying5 Tryd.underlying9 fun j hj => ?_
    rw [add_off, Nat.zero_add, cell_of_row W g j cur _ (0, 0) hh]
    have : (byteVals s)[j]? = some (.int .u8 (s[j].toNat : Int)) := by simp [byteVals, hj]
    rw [← this, ← ht, List.getElem?_take_of_lt (by omega), Array.getElem?_toList]
set_option maxRecDepth 100000 in
set_option maxHeartbeats 8000000 in
theorem run_any (w : World) (B : Nat) (K : Nat → Prop) (mb vb bm : Nat) (m : MD) (br : Nat → MD → Nat × MD) (dd : ItemD → MD → Int × MD) (l : List ItemD) (hd : Does l br dd) (hl : l.length ≤ 4096) (htx : ∀ it ∈ l, it.text.length ≤ 4096 ∧ it.pos ≤ 4096) (h : MachX w B K mb vb bm m) (hok : MOk m) (hp : PowB B bm w) (A : Option Addr) (cap : Nat) (hrow : ItemRow w 0 (.slice A l.length cap) l) (hrb : ∀ k, (Value.slice A l.length cap).ownBlock = some k → k < B ∧ k ≠ bm) :
    Calls Tryd.prog 19 #[.pointer (some ⟨mb, 0, none⟩), .slice A l.length cap] w (RunPost w B K bm (runFrom br dd l (l.length + 2) 0 m)) := by
  have HST := Lib.hid (show RunI w B K mb vb bm br dd l (runFrom br dd l (l.length + 2) 0 m) (.int .i64 0) w from ⟨0, m, l.length + 2, rfl, by omega, h, hok, Touch.refl _ _, by omega, rfl⟩)
  generalize runFrom br dd l (l.length + 2) 0 m = r at *
  have HROW : Hid (∀ W, Touch (Turns B bm K) w W → ItemRow W 0 (.slice A l.length cap) l) := Lib.hid fun W hW => own_same hrow fun j hj => hW.block j (own_lt hrow j hj).2 fun e => by have := hrb j hj; rcases e.1 with e | e <;> omega
  have HPB := Lib.hid hp
  have HD := Lib.hid hd
  have HL := Lib.hid hl
  have HTX := Lib.hid htx
  clear h hok hp hrow hrb hd htx
  go_enter Tryd.func19, Tryd.ntmps19
  go_wp2_with fail
  go_loopw [7] (fun a W => RunI w B K mb vb bm br dd l r a W) (fun a _ => l.length + 1 - (RowKit.intOf a).toNat)
  case atStart => exact HST.out
  case round =>
    obtain ⟨i, m, N, rfl, hi, hm, hok, ht, hN, hr⟩ := hrel
    have hrow := HROW.out _ ht
    have hmlt := hm.lt
    by_cases hlt : i < l.length
    · obtain ⟨it, hit⟩ : ∃ it, l[i]? = some it := ⟨_, List.getElem?_eq_getElem hlt⟩
      obtain ⟨g, rfl, hcap, _, hg, hcs⟩ := hrow.cells hit
      have d0 := hcs 0 _ rfl
      have d1 := hcs 1 _ rfl
      have d2 := hcs 2 _ rfl
      have d3 := hcs 3 _ rfl
      have d4 := hcs 4 _ rfl
      have d5 := hcs 5 _ rfl
      have d6 := hcs 6 _ rfl
      have d7 := hcs 7 _ rfl
      have d8 := hcs 8 _ rfl
      have d9 := hcs 9 _ rfl
      have d10 := hcs 10 _ rfl
      rw [Nat.add_zero] at d0
      have i1 : (i : Int) < (l.length : Int) := by omega
      have i2 : (0 : Int) ≤ (i : Int) := by omega
      have i3 : (i : Int) ≤ 4096 := by have := HL.out; omega
      have HIT := Lib.hid hit
      have HMM := Lib.hid hm
      have HK := Lib.hid (And.intro hi (And.intro hok (And.intro ht (And.intro hN hr))))
      have HLT := Lib.hid hlt
      have hmem : it ∈ l := List.mem_of_getElem? hit
      have HTI := Lib.hid (HTX.out it hmem)
      have HO := Lib.hid (HD.out.other it hmem)
      have HBR := Lib.hid (HD.out.branch i it hit)
      clear hcs hrow hm hit hi hok ht hN hr hlt hmem
      obtain ⟨p, v, n, tx, f⟩ := it
      by_cases h0 : v = 0
      · subst h0
        obtain ⟨pv, sv, ov, hm⟩ := HMM.out
        obtain ⟨A1, cap1, rfl⟩ := hm.orow.form
        have c3 := hm.cells.2.2.2.1
        have f3 := hm.frozen 3
        have hol := hm.small.2.2.1
        have j1 : (m.out.length : Int) ≤ 16384 := by omega
        have j2 : (tx.length : Int) ≤ 4096 := by have := HTI.out.1; simp only at this; omega
        have j3 : (p : Int) ≤ 4096 := by have := HTI.out.2; simp only at this; omega
        by_cases hroom : 16384 < m.out.length + tx.length
        · have k1 : (16384 : Int) - (m.out.length : Int) < (tx.length : Int) := by omega
          have HS0 : Hid (∀ n', runFrom br dd l (n' + 1) i m = ([], (p : Int) + (16384 - m.out.length), 3)) := Lib.hid fun n' => by
            unfold runFrom
            rw [HIT.out]
            show (if (0 : UInt8) = 0 then (if 16384 < m.out.length + tx.length then _ else _) else _) = _
            rw [if_pos rfl, if_pos hroom]
          clear hm hroom hol HO HBR
          go_wp2_with fail
          go_quiet (fail)
          go_wp2
          refine bodyPost_ret (v := .tuple #[str [], .int .i64 ((p : Int) + (16384 - (m.out.length : Int))), .int .i64 3]) (by simp [results, Tryd.results19, go_sem]) rfl ⟨?_, (HK.out.2.2.1.trans (touch_new (alloc_one _ _))).trans (Touch.drewN _ _)⟩
          obtain ⟨N', hN'⟩ : ∃ N', N = N' + 1 := ⟨N - 1, by have := HK.out.2.2.2.1; have := HLT.out; omega⟩
          rw [HK.out.2.2.2.2, hN', HS0.out N']
        · have k1 : ¬ (16384 : Int) - (m.out.length : Int) < (tx.length : Int) := by omega
          have HS1 : Hid (∀ n', runFrom br dd l (n' + 1) i m = runFrom br dd l n' (i + 1) { m with out := m.out ++ tx }) := Lib.hid fun n' => by
            conv => lhs; unfold runFrom
            rw [HIT.out]
            show (if (0 : UInt8) = 0 then (if 16384 < m.out.length + tx.length then _ else _) else _) = _
            rw [if_pos rfl, if_neg hroom]
          have HRM := Lib.hid hroom
          have hm1 := hm.below ((alloc_one wr (itemObj 0 n tx f p)).drew)
          have HM1 := Lib.hid hm1
          clear hm hm1 hroom hol HO HBR
          go_wp2_with fail
          go_region_law (refine step_append_text (by rfl) (.tmp 52) (.tmp 54) (by rfl) B (.slice A1 m.out.length cap1) m.out (by rfl) HM1.out.orow tx (by rfl) (by have := HRM.out; omega) HM1.out.baseLt ?_; intro v' w' hr' hg'; obtain ⟨A', c', hv'⟩ := hr'.form; rw [List.length_append] at hv'; subst hv'; obtain ⟨d3, g3, hW⟩ := HM1.out.wrote hr' hg' (by have := HRM.out; omega); have HW := Lib.hid hW; have HG := Lib.hid hg'; clear hr' hg' hW)
          all_goals
            go_wp2
            exact ⟨RunI.next (j := i + 1) HIT.out (Nat.lt_succ_self i) (by have := HLT.out; omega) ⟨_, _, _, HW.out⟩ HK.out.2.1 (HK.out.2.2.1.trans ((touch_new ((alloc_one _ _).drew)).trans ((Touch.of_grown HG.out fun k hk => ⟨.inr (own_lt HM1.out.orow k hk).1, fun hK => (HM1.out.free k hK).2.2.2.2.2.1 hk⟩).trans (turns_set _ _ _ HM1.out.base HM1.out.notK)))) HK.out.2.2.2.1 HK.out.2.2.2.2 (fun n' => HS1.out n') (by simp), by have := HLT.out; simp [RowKit.intOf]; omega⟩
      · have q0 := ne_byte (d := 0) h0 (by decide)
        cases hb : isBranch v with
        | true =>
          have hBr := HBR.out hb
          have hj1 := (hBr.1 m).1
          have hj2 := (hBr.1 m).2
          have CB := Lib.hid (hBr.2.2 (wr.alloc (itemObj v.toNat n tx f p)) B K mb vb bm m (some ⟨g, 0, none⟩) cap 0 (HMM.out.below (alloc_one _ _)) (HROW.out _ (HK.out.2.2.1.trans (touch_new (alloc_one _ _)))))
          unfold OpPost at CB
          have HOK := Lib.hid (hBr.2.1 m HK.out.2.1)
          have HS1 : Hid (∀ n', runFrom br dd l (n' + 1) i m = runFrom br dd l n' ((br i m).1 + 1) (br i m).2) := Lib.hid fun n' => by
            conv => lhs; unfold runFrom
            rw [HIT.out]
            show (if v = 0 then _ else if isBranch v then _ else _) = _
            rw [if_neg h0, hb, if_pos rfl]
          have hq : v = 63 ∨ v = 116 ∨ v = 101 ∨ v = 59 := by unfold isBranch at hb; simpa [or_assoc] using hb
          have HT0 : Hid (Touch (Turns B bm K) wr (wr.alloc (itemObj v.toNat n tx f p))) := Lib.hid (touch_new (alloc_one _ _))
          clear hBr HBR HO h0 hb
          generalize br i m = q at *
          obtain ⟨j, m'⟩ := q
          simp only at hj1 hj2
          have k1 : (j : Int) ≤ 4096 := by have := HL.out; omega
          have k2 : (0 : Int) ≤ (j : Int) := by omega
          have HJ := Lib.hid (And.intro hj1 hj2)
          clear hj1 hj2
          rcases hq with rfl | rfl | rfl | rfl
          all_goals
            clear q0
            go_wp2_with (go_at_call 30; refine (CB.out).mono ?_; rintro e w1 ⟨rfl, hm1, ht1⟩; have H1 := Lib.hid (And.intro hm1 ht1); clear hm1 ht1)
            exact ⟨RunI.next (j := j + 1) HIT.out (by have := HJ.out.1; omega) (by have := HJ.out.2; omega) H1.out.1 HOK.out (HK.out.2.2.1.trans (HT0.out.trans H1.out.2)) HK.out.2.2.2.1 HK.out.2.2.2.2 (fun n' => HS1.out n') (by simp), by have := HLT.out; have := HJ.out.1; simp [RowKit.intOf]; omega⟩
        | false =>
          have hq : (v ≠ 63 ∧ v ≠ 116) ∧ (v ≠ 101 ∧ v ≠ 59) := by unfold isBranch at hb; simpa [and_assoc] using hb
          have q1 := ne_byte (d := 63) hq.1.1 (by decide)
          have q2 := ne_byte (d := 116) hq.1.2 (by decide)
          have q3 := ne_byte (d := 101) hq.2.1 (by decide)
          have q4 := ne_byte (d := 59) hq.2.2 (by decide)
          have CD : Hid (Calls Tryd.prog 31 #[.pointer (some ⟨mb, 0, none⟩), itemVal ⟨p, v, n, tx, f⟩] (wr.alloc (itemObj v.toNat n tx f p)) (DoPost (wr.alloc (itemObj v.toNat n tx f p)) B (fun k => K k ∨ k = wr.heap.size) mb vb bm (dd ⟨p, v, n, tx, f⟩ m))) :=
            Lib.hid ((HO.out h0 hb).1 _ _ _ _ _ _ _ (HMM.out.keep _ (fun cur e => by injection e with _ e; exact absurd e (by decide))) ((HPB.out.touch HK.out.2.2.1).below (alloc_one _ _)) HK.out.2.1)
          unfold DoPost OpPost at CD
          have HOK := Lib.hid ((HO.out h0 hb).2 m HK.out.2.1)
          have HS0 : Hid (∀ n', (dd ⟨p, v, n, tx, f⟩ m).1 ≠ 0 → runFrom br dd l (n' + 1) i m = ([], (p : Int), (dd ⟨p, v, n, tx, f⟩ m).1)) := Lib.hid fun n' he => by
            unfold runFrom
            rw [HIT.out]
            show (if v = 0 then _ else if isBranch v then _ else if (dd ⟨p, v, n, tx, f⟩ m).1 ≠ 0 then _ else _) = _
            rw [if_neg h0, hb, if_neg (by decide), if_pos he]
          have HS1 : Hid (∀ n', (dd ⟨p, v, n, tx, f⟩ m).1 = 0 → runFrom br dd l (n' + 1) i m = runFrom br dd l n' (i + 1) (dd ⟨p, v, n, tx, f⟩ m).2) := Lib.hid fun n' he => by
            conv => lhs; unfold runFrom
            rw [HIT.out]
            show (if v = 0 then _ else if isBranch v then _ else if (dd ⟨p, v, n, tx, f⟩ m).1 ≠ 0 then _ else _) = _
            rw [if_neg h0, hb, if_neg (by decide), if_neg (fun e => e he)]
          generalize dd ⟨p, v, n, tx, f⟩ m = q at *
          clear h0 hb hq
          have ht0 : Touch (Turns B bm K) wr (wr.alloc (itemObj v.toNat n tx f p)) := touch_new (alloc_one _ _)
          have HT0 := Lib.hid ht0
          clear ht0
          obtain ⟨e, m'⟩ := q
          by_cases he : e = 0
          · subst he
            go_wp2_with (go_at_call 31; (with_reducible refine (CD.out).mono ?_); rintro e w1 ⟨rfl, hm1, ht1⟩; have H1 := Lib.hid (And.intro hm1 ht1); clear hm1 ht1)
            exact ⟨RunI.next (j := i + 1) HIT.out (Nat.lt_succ_self i) (by have := HLT.out; omega) (H1.out.1.less fun _ h => .inl h) HOK.out (HK.out.2.2.1.trans (HT0.out.trans (turns_less H1.out.2 fun _ h => .inl h))) HK.out.2.2.2.1 HK.out.2.2.2.2 (fun n' => HS1.out n' trivial) (by simp), by have := HLT.out; simp [RowKit.intOf]; omega⟩
          · have hqe : (e == 0) = false := by simpa using he
            have HE := Lib.hid he
            clear he
            go_wp2_with (go_at_call 31; (with_reducible refine (CD.out).mono ?_); rintro e w1 ⟨rfl, hm1, ht1⟩; have hbx := (ht1.block wr.heap.size (by simp) (fun e => e.2 (.inr rfl))).trans (alloc_new _ _); have a0 := cell_of_row w1 _ 0 _ _ _ hbx; have H1 := Lib.hid (And.intro hm1 ht1); clear hm1 ht1 hbx)
            go_quiet (fail)
            go_wp2
            have hfin := HK.out.2.2.1.trans (HT0.out.trans (turns_less H1.out.2 fun _ h => .inl h))
            refine bodyPost_ret (v := .tuple #[str [], .int .i64 p, .int .i64 e]) (by simp [results, Tryd.results19, go_sem]) rfl ⟨?_, hfin.trans (Touch.drewN _ _)⟩
            obtain ⟨N', hN'⟩ : ∃ N', N = N' + 1 := ⟨N - 1, by have := HK.out.2.2.2.1; have := HLT.out; omega⟩
            rw [HK.out.2.2.2.2, hN', HS0.out N' HE.out]
    · have hge : l.length ≤ i := Nat.le_of_not_lt hlt
      obtain ⟨pv, sv, ov, hmm⟩ := hm
      obtain ⟨A1, cap1, rfl⟩ := hmm.orow.form
      have c3 := hmm.cells.2.2.2.1
      have i1 : ¬ (i : Int) < (l.length : Int) := by omega
      have hcv := conv_row hmm.orow
      have HK := Lib.hid (And.intro ht (And.intro hN hr))
      have HG := Lib.hid hge
      have HI := Lib.hid hi
      clear hrow hmm ht hN hr hge hlt hok hmlt
      go_wp2_with fail
      refine bodyPost_ret (v := .tuple #[str m.out, .int .i64 0, .int .i64 0]) (by simp [results, Tryd.results19, go_sem]) rfl ⟨?_, HK.out.1⟩
      obtain ⟨N', hN'⟩ : ∃ N', N = N' + 1 := ⟨N - 1, by have := HK.out.2.1; have := HI.out; omega⟩
      rw [HK.out.2.2, hN']
      unfold runFrom
      rw [List.getElem?_eq_none HG.out]
end Go.Proofs.YtapihomdfdhnnaaDoor
