/-
  What Search answers, given what its search in a line answers.
-/
import Derived.Test.YtojhppcnpjajaaaHlNone
namespace Go.Proofs.Ytojhppcnpjajaaa
open Go.RowKit Go.Shelf Go.Lib
attribute [local go_sem] Oper.semAt_some

theorem range_none2 {n : Nat} {g : Operand} {p q : Tmp} {body : Code} {Q : Exit → Act → World → Prop} {a : Act} {w : World} {gf : Nat} {lb : Array Value} {R : Nat → Value → Value → Nat → World → Prop}
    (hg : a.eval g = .func (.func gf) #[] lb) (eg : ∀ args w, (callFunc gf args).run Try.prog w = .ok (.enter gf args) w) {T : Nat → Prop} (hit : IterG2 Try.prog gf lb T 0 R w) (hT : ∀ k, T k → k < w.heap.size)
    (hdone : ∀ W : World, Touch (fun j => w.heap.size + 1 ≤ j) w W → W.heap[w.heap.size]? = some (.deferred (some [])) → Q .normal { a with defers := { target := .collected w.heap.size, args := #[] } :: a.defers } W) :
    (Code.rangeFunc g #[p, q] Code.skip body).wpIn Fence.wide n Try.prog Q a w := by
  refine range_law2 hg eg (IterG2.weak (R' := fun k _ _ _ _ => k < 0 ∨ True) hit fun _ _ _ _ _ _ => .inr trivial) (fun _ _ _ _ _ _ _ _ _ => .inr trivial) hT (fun _ W => Touch (fun j => w.heap.size + 1 ≤ j) w W) (fun _ _ => False) (fun _ _ _ h k => h.trans k) (fun _ _ _ h _ => h) (Touch.refl _ _) (fun x y => { tmps := (a.tmps.setIfInBounds p x).setIfInBounds q y, defers := [] }) ?_ ?_ (fun W h k => hdone W h k) (fun _ _ h => h.elim)
  · intro l x y W K hK
    gi_wp2_with fail
    exact hK
  · intro l k x y b W hx
    omega
/-- where a search begins -/
def srcFrom (n : Nat) (p : Int) (back : Bool) : Int := if back then min p ((n : Int) - 1) else max p 0
/-- the text of the k-th line that is looked at -/
def srcTxt (l : List HL) (p : Int) (back : Bool) (k : Nat) : ByteArray := (l.getD (itP p back k).toNat zl).1
/-- what a search tells: F tells of a text where the other one begins in it, below 0: nowhere -/
def srcV (F : ByteArray → Int) (l : List HL) (p : Int) (back : Bool) : Int × Int × Bool :=
  match (List.range (itN l.length p back)).find? fun k => decide (0 ≤ F (srcTxt l p back k)) with
  | some k => (itP p back k, F (srcTxt l p back k), true)
  | none => (0, 0, false)
theorem srcV_hit {F : ByteArray → Int} {l : List HL} {p : Int} {back : Bool} {k : Nat} (hk : k < itN l.length p back) (hno : ∀ j, j < k → F (srcTxt l p back j) < 0) (hh : 0 ≤ F (srcTxt l p back k)) : srcV F l p back = (itP p back k, F (srcTxt l p back k), true) := by
  have : (List.range (itN l.length p back)).find? (fun k => decide (0 ≤ F (srcTxt l p back k))) = some k := by
    rw [List.find?_eq_some_iff_getElem]
    refine ⟨decide_eq_true hh, k, by simpa using hk, by simp, fun j hj => ?_⟩
    have := hno j hj
    simp
    omega
  unfold srcV
  rw [this]
theorem srcV_none {F : ByteArray → Int} {l : List HL} {p : Int} {back : Bool} (hno : ∀ j, j < itN l.length p back → F (srcTxt l p back j) < 0) : srcV F l p back = (0, 0, false) := by
  have : (List.range (itN l.length p back)).find? (fun k => decide (0 ≤ F (srcTxt l p back k))) = none := by
    rw [List.find?_eq_none]
    intro j hj
    have := hno j (by simpa using hj)
    simp
    omega
  unfold srcV
  rw [this]
/-- what lies while lines are looked at: the arguments' boxes and the results' -/
structure SEnv (a : Nat) (t : ByteArray) (back begins : Bool) (x y : Int) (z : Bool) (w W : World) : Prop where
  t0 : Box W a (.string t) 9
  t1 : Box W (a + 1) (.bool back) 4
  t2 : Box W (a + 2) (.bool begins) 4
  r0 : Box W (a + 3) (.int .i64 x) 3
  r1 : Box W (a + 4) (.int .i64 y) 3
  r2 : Box W (a + 5) (.bool z) 4
  b : Below w.heap.size w W
theorem SEnv.write {a : Nat} {t : ByteArray} {back begins : Bool} {x y : Int} {z : Bool} {w W : World} (h : SEnv a t back begins x y z w W) (x' y' : Int) (z' : Bool) (hw : w.heap.size ≤ a) : SEnv a t back begins x' y' z' w (((W.setCell ⟨a + 1 + 1 + 1, 0, none⟩ (.int .i64 x')).setCell ⟨a + 1 + 1 + 1 + 1, 0, none⟩ (.int .i64 y')).setCell ⟨a + 1 + 1 + 1 + 1 + 1, 0, none⟩ (.bool z')) := by
  have ne : ∀ {p q : Nat}, p ≠ q → ∀ (W : World) (u : Value), (W.setCell ⟨q, 0, none⟩ u).heap[p]? = W.heap[p]? := fun {p q} h W u => Below.heap_setCell W ⟨q, 0, none⟩ u p h
  refine ⟨?_, ?_, ?_, ?_, ?_, ?_, ((h.b.setCell (p := ⟨a + 1 + 1 + 1, 0, none⟩) (by show _ ≤ a + 1 + 1 + 1; omega) _).setCell (p := ⟨a + 1 + 1 + 1 + 1, 0, none⟩) (by show _ ≤ a + 1 + 1 + 1 + 1; omega) _).setCell (p := ⟨a + 1 + 1 + 1 + 1 + 1, 0, none⟩) (by show _ ≤ a + 1 + 1 + 1 + 1 + 1; omega) _⟩
  · exact ((ne (by omega) _ _).trans ((ne (by omega) _ _).trans (ne (by omega) _ _))).trans h.t0
  · exact ((ne (by omega) _ _).trans ((ne (by omega) _ _).trans (ne (by omega) _ _))).trans h.t1
  · exact ((ne (by omega) _ _).trans ((ne (by omega) _ _).trans (ne (by omega) _ _))).trans h.t2
  · exact ((ne (by omega) _ _).trans (ne (by omega) _ _)).trans (h.r0.set _)
  · exact (ne (by omega) _ _).trans (Box.set (v := .int .i64 y) ((ne (by omega) _ _).trans h.r1) _)
  · exact Box.set (v := .bool z) ((ne (by omega) _ _).trans ((ne (by omega) _ _).trans h.r2)) _
theorem SEnv.touch {a : Nat} {t : ByteArray} {back begins : Bool} {x y : Int} {z : Bool} {w W W' : World} (h : SEnv a t back begins x y z w W) {U : Nat → Prop} (ht : Touch U W W') (hU : ∀ j, j ≤ a + 5 → ¬ U j) (hw : w.heap.size ≤ a) : SEnv a t back begins x y z w W' :=
  ⟨h.t0.same (ht.block _ h.t0.lt (hU _ (by omega))), h.t1.same (ht.block _ h.t1.lt (hU _ (by omega))), h.t2.same (ht.block _ h.t2.lt (hU _ (by omega))), h.r0.same (ht.block _ h.r0.lt (hU _ (by omega))), h.r1.same (ht.block _ h.r1.lt (hU _ (by omega))), h.r2.same (ht.block _ h.r2.lt (hU _ (by omega))), h.b.trans (ht.below h.b.size fun j hj => Nat.le_of_not_lt fun hlt => hU j (by omega) hj)⟩
theorem heap_alloc_at (w : World) (o : Obj) (j : Nat) : (w.alloc o).heap[j]? = if j = w.heap.size then some o else w.heap[j]? := by
  show (w.heap.push o)[j]? = _
  rw [Array.getElem?_push]
theorem senv_new (w : World) (t : ByteArray) (back begins : Bool) : SEnv w.heap.size t back begins 0 0 false w ((((((w.alloc (.cells #[.string t] 9)).alloc (.cells #[.bool back] 4)).alloc (.cells #[.bool begins] 4)).alloc (.cells #[.int .i64 0] 3)).alloc (.cells #[.int .i64 0] 3)).alloc (.cells #[.bool false] 4)) := by
  refine ⟨?_, ?_, ?_, ?_, ?_, ?_, ?_⟩
  case refine_7 => exact ((((((Below.refl w.heap.size w).alloc (Nat.le_refl _) _).alloc (by simp) _).alloc (by simp; omega) _).alloc (by simp; omega) _).alloc (by simp; omega) _).alloc (by simp; omega) _
  all_goals
    have hs : ∀ (w : World) o, (w.alloc o).heap.size = w.heap.size + 1 := fun w o => by simp
    show _ = _
    simp only [heap_alloc_at, hs]
    repeat (first | rw [if_pos (by first | trivial | omega)] | rw [if_neg (by omega)])
def aggOf : Value → Array Value | .agg cs => cs | _ => #[]
set_option maxRecDepth 1000000 in
set_option maxHeartbeats 4000000 in
theorem search_g (F : ByteArray → Int) (w : World) (q : Option Addr) (v : Value) (l : List HL) (x0 y0 : Int) (i : Int) (t : ByteArray) (back begins : Bool) (hl : l.length ≤ 140737488355328)
    (hk : ∀ W, Below w.heap.size w W → Calls Try.prog 50 #[.pointer q] W fun e W' => e = .returned (.agg #[v, .int .i64 x0, .int .i64 y0]) ∧ Below W.heap.size W W') (hv : HSeg w v l)
    (hf : ∀ W, Below w.heap.size w W → ∀ z, z ∈ l → Calls Try.prog 64 #[.string z.1, .string t, .bool back, .bool begins] W fun e W' => e = .returned (.int .i64 (F z.1)) ∧ Below W.heap.size W W') :
    Calls Try.prog 34 #[.pointer q, .int .i64 i, .string t, .bool back, .bool begins] w fun e w' => e = .returned (.tuple #[.int .i64 (srcV F l (srcFrom l.length i back) back).1, .int .i64 (srcV F l (srcFrom l.length i back) back).2.1, .bool (srcV F l (srcFrom l.length i back) back).2.2]) ∧ Below w.heap.size w w' := by
  have CK := Lib.hid hk
  have HV := Lib.hid hv
  have HF := Lib.hid hf
  have HL := Lib.hid hl
  obtain ⟨A, c, rfl⟩ := hv.holds.form
  have CF := Lib.hid fun W p (hb : Below w.heap.size w W) => from_any W _ l x0 y0 p back (hv.below hb)
  obtain ⟨n, hn⟩ : ∃ n, n = l.length := ⟨_, rfl⟩
  rw [← hn] at CK CF ⊢
  obtain ⟨p, hp⟩ : ∃ p, p = srcFrom n i back := ⟨_, rfl⟩
  rw [← hp]
  have HP := Lib.hid hp
  obtain ⟨rv, hrv⟩ : ∃ rv, rv = srcV F l p back := ⟨_, rfl⟩
  rw [← hrv]
  have HRV := Lib.hid hrv
  clear hrv
  have HN := Lib.hid hn
  have hn63 : (n : Int) ≤ 140737488355328 := by omega
  clear hk hv hf hl hn hp
  refine (callsIn_wide (n := 8)).1 ?_
  refine callsIn_of_wp_marks Try.func34 rfl trivial ?_ rfl
  simp only [Try.ntmps34, List.size_toArray, List.length_cons, List.length_nil, Nat.reduceAdd, Nat.reduceSub, Array.replicate_succ, Array.replicate_zero, List.push_toArray, List.append_toArray, List.nil_append, List.cons_append]
  have hdep : Fence.wide.depth.isSome = false := rfl
  have hf0 : Fence.wide.fn 50 := trivial
  have hf1 : Fence.wide.fn 52 := trivial
  have hf2 : Fence.wide.fn 64 := trivial
  have HE0 := Lib.hid (senv_new w t back begins)
  cases back with
  | true =>
    have hmin : min i ((n : Int) - 1) = p := by rw [HP.out]; rfl
    gi_wp2_with fail
    generalize hW0 : (((((w.alloc (.cells #[.string t] 9)).alloc (.cells #[.bool true] 4)).alloc (.cells #[.bool begins] 4)).alloc (.cells #[.int .i64 0] 3)).alloc (.cells #[.int .i64 0] 3)).alloc (.cells #[.bool false] 4) = W0 at *
    clear hW0
    gi_wp2_with (first
      | (gi_at_call 50; refine (callsIn_wide.2 (CK.out _ HE0.out.b)).mono ?_; rintro e w1 ⟨rfl, hb⟩; have HE1 := Lib.hid (HE0.out.touch (U := fun _ => False) (Touch.of_below hb) (fun _ _ h => h) (Nat.le_refl _)); have hA := fun o => (HE1.out.touch (U := fun _ => False) (Touch.alloc _ w1 o) (fun _ _ h => h) (Nat.le_refl _)).t1.cell; clear hb)
      | (gi_at_call 52; have hE2 := (HE1.out.touch (U := fun _ => False) (Touch.alloc _ w1 (.cells #[.slice A n c, .int .i64 x0, .int .i64 y0] 85)) (fun _ _ h => h) (Nat.le_refl _)); refine (callsIn_wide.2 (CF.out _ p hE2.b)).mono ?_; rintro e w2 ⟨rfl, hit, hb⟩; have HE2 := Lib.hid (hE2.touch (U := fun _ => False) (Touch.of_below hb) (fun _ _ h => h) (Nat.le_refl _)); have HIT := Lib.hid hit; clear hit hb hE2))
    obtain ⟨B, hB⟩ : ∃ B, B = w1.heap.size + 1 := ⟨_, rfl⟩
    have hsz1 : (w1.alloc (.cells #[.slice A n c, .int .i64 x0, .int .i64 y0] 85)).heap.size = w1.heap.size + 1 := by simp
    rw [hsz1, ← hB] at HIT
    rw [← hB]
    have HBB := Lib.hid hB
    clear hB hsz1
    have HNN : Hid (itN l.length p true = itN n p true) := Lib.hid (by rw [HN.out])
    refine range_law2f (R := ItR l p true) rfl (enters_of Try.func73 (by kernel_rfl) rfl) (from_iter w2 B _ l p true (HN.out ▸ HIT.out) HL.out) (HIT.out.lt)
      (fun k Wz => SEnv w.heap.size t true begins 0 0 false w Wz ∧ ∀ j, j < k → F (srcTxt l p true j) < 0)
      (fun cd Wz => cd = .ret ∧ ∃ k, k < itN l.length p true ∧ (∀ j, j < k → F (srcTxt l p true j) < 0) ∧ 0 ≤ F (srcTxt l p true k) ∧ SEnv w.heap.size t true begins (itP p true k) (F (srcTxt l p true k)) true w Wz) ?_ ?_ ⟨HE2.out, fun j hj => by omega⟩
      (fun _ y V => V.alloc (.cells (aggOf y) 69)) (fun _ _ V => (Below.refl _ _).alloc (Nat.le_refl _) _) (fun x _ V t => (t.setIfInBounds 14 x).setIfInBounds 15 (.pointer (some ⟨V.heap.size, 0, none⟩))) ?_ ?_ ?_ ?_
    · rintro k Wa Wb ⟨h1, h2⟩ ht
      exact ⟨h1.touch ht (fun j hj h => by have := HE2.out.r2.lt; omega) (Nat.le_refl _), h2⟩
    · rintro cd Wa Wb ⟨h0, k, h1, h2, h3, h4⟩ ht
      exact ⟨h0, k, h1, h2, h3, h4.touch ht (fun j hj h => by have := HE2.out.r2.lt; omega) (Nat.le_refl _)⟩
    · intro l0 k x y V K1 hr hK
      obtain ⟨j, z, hj, rfl, hz, rfl⟩ := hr
      gi_wp2_with fail
      exact hK
    · intro l0 k x y V Wr hk hr hI hlt hnew hsz hbm
      obtain ⟨j, z, hj, rfl, hz, rfl⟩ := hr
      obtain ⟨hE, hno⟩ := hI
      have hbox : Wr.heap[V.heap.size]? = some (.cells #[.string z.1, .int .i64 z.2] 69 (0, 0)) := (hnew _ (Nat.le_refl _)).trans (alloc_new _ _)
      have c0 := cell_of_row Wr _ 0 _ _ _ hbox
      have e0 := hE.t0.cell
      have e1 := hE.t1.cell
      have e2 := hE.t2.cell
      have CX := Lib.hid (HF.out Wr hE.b z (List.mem_of_getElem? hz))
      have htx : srcTxt l p true k = z.1 := by unfold srcTxt; rw [hj]; simp [hz]
      have HE := Lib.hid hE
      have HNO := Lib.hid hno
      have HTX := Lib.hid htx
      have HJ := Lib.hid hj
      have HK := Lib.hid hk
      have HLT := Lib.hid hlt
      have HSZ : Hid (Wr.heap.size = V.heap.size + 1) := Lib.hid (by rw [hsz]; simp)
      have h1l : 1 ≤ 8 - 1 - 1 := by decide
      clear hE hno htx hj hk hlt hsz hbm hnew hz hbox
      obtain ⟨r, hr⟩ : ∃ r, F z.1 = r := ⟨_, rfl⟩
      rw [hr] at CX
      have HR := Lib.hid hr
      have HE2r : Hid (w.heap.size + 5 < w2.heap.size) := Lib.hid HE2.out.r2.lt
      clear hr
      by_cases h0 : 0 ≤ r
      · have d0 : decide (0 ≤ r) = true := decide_eq_true h0
        gi_wp2_with (gi_at_call 64; refine (CallsIn.inRound l0 (callsIn_wide.2 CX.out)).mono ?_; rintro e Ws ⟨rfl, hb⟩; have HE2 := Lib.hid (HE.out.touch (U := fun _ => False) (Touch.of_below hb) (fun _ _ h => h) (Nat.le_refl _)); have HB2 := Lib.hid hb; have r0 := HE2.out.r0.cell; have r1 := HE2.out.r1.cell; have r2 := HE2.out.r2.cell; have q0 := HE2.out.r0.frozen; have q1 := HE2.out.r1.frozen; have q2 := HE2.out.r2.frozen; clear hb)
        have hr : F (srcTxt l p true k) = r := by rw [HTX.out]; exact HR.out
        have hw4 := HE2.out.write (itP p true k) (F (srcTxt l p true k)) true (Nat.le_refl _)
        rw [hr, HJ.out] at hw4
        have hb1 := HE2.out.r0.lt
        have hb2 := HB2.out.size
        have hb3 := HSZ.out
        refine ⟨⟨?_, ?_⟩, rfl, k, HK.out, HNO.out, by rw [hr]; exact h0, by rw [hr, HJ.out]; exact hw4⟩
        · simp only [World.setCell]
          simp
          omega
        · intro q hq
          have := HLT.out
          have := HE.out.r2.lt
          have := HE2r.out
          rw [Below.heap_setCell _ _ _ q (by show q ≠ w.heap.size + 1 + 1 + 1 + 1 + 1; omega), Below.heap_setCell _ _ _ q (by show q ≠ w.heap.size + 1 + 1 + 1 + 1; omega), Below.heap_setCell _ _ _ q (by show q ≠ w.heap.size + 1 + 1 + 1; omega)]
          exact HB2.out.block q (by omega)
      · have d0 : decide (0 ≤ r) = false := decide_eq_false h0
        gi_wp2_with (gi_at_call 64; refine (CallsIn.inRound l0 (callsIn_wide.2 CX.out)).mono ?_; rintro e Ws ⟨rfl, hb⟩; have HE2 := Lib.hid (HE.out.touch (U := fun _ => False) (Touch.of_below hb) (fun _ _ h => h) (Nat.le_refl _)); have HB2 := Lib.hid hb; clear hb)
        have hr : F (srcTxt l p true k) = r := by rw [HTX.out]; exact HR.out
        refine ⟨⟨HB2.out.size, fun q hq => HB2.out.block q ?_⟩, HE2.out, fun j' hj' => ?_⟩
        · have h3 := HSZ.out
          have h4 := HLT.out
          rcases hq with hq | hq | hq | hq
          · have := HIT.out.lt q (HN.out ▸ hq)
            omega
          all_goals omega
        · rcases Nat.lt_or_ge j' k with h | h
          · exact HNO.out j' h
          · obtain rfl : j' = k := by omega
            rw [hr]
            omega
    · rintro Wz ⟨hE, hno⟩ hdf
      have HSR := Lib.hid (HRV.out.trans (srcV_none hno))
      have r0 := hE.r0.cell
      have r1 := hE.r1.cell
      have r2 := hE.r2.cell
      have q0 := hE.r0.frozen
      have q1 := hE.r1.frozen
      have q2 := hE.r2.frozen
      have HE := Lib.hid hE
      have HDF := Lib.hid hdf
      clear hE hno hdf
      gi_wp2_with fail
      have hw4 := HE.out.write 0 0 false (Nat.le_refl _)
      have hd4 : ((((Wz.setCell ⟨w.heap.size + 1 + 1 + 1, 0, none⟩ (.int .i64 0)).setCell ⟨w.heap.size + 1 + 1 + 1 + 1, 0, none⟩ (.int .i64 0)).setCell ⟨w.heap.size + 1 + 1 + 1 + 1 + 1, 0, none⟩ (.bool false))).heap[w2.heap.size]? = some (.deferred (some [])) := by
        have := HE2.out.r2.lt
        rw [Below.heap_setCell _ _ _ _ (by show w2.heap.size ≠ w.heap.size + 1 + 1 + 1 + 1 + 1; omega), Below.heap_setCell _ _ _ _ (by show w2.heap.size ≠ w.heap.size + 1 + 1 + 1 + 1; omega), Below.heap_setCell _ _ _ _ (by show w2.heap.size ≠ w.heap.size + 1 + 1 + 1; omega)]
        exact HDF.out
      refine ⟨by simp, .inl ⟨_, _, rfl, run_takeDeferred hd4, ?_⟩⟩
      have hw5 := hw4.touch (Touch.putObj (T := fun x => x = w2.heap.size) _ w2.heap.size (.deferred none) rfl) (fun j hj e => by have := HE2.out.r2.lt; omega) (Nat.le_refl _)
      have r0 := hw5.r0.cell
      have r1 := hw5.r1.cell
      have r2 := hw5.r2.cell
      refine ⟨.tuple #[.int .i64 0, .int .i64 0, .bool false], by simp [results, Try.results34, go_sem, r0, r1, r2], by rw [HSR.out], hw5.b⟩
    · rintro cd Wz ⟨rfl, k, hk, hno, hh, hE⟩ hdf
      have HSR := Lib.hid (HRV.out.trans (srcV_hit hk hno hh))
      generalize itP p true k = r0' at *
      generalize F (srcTxt l p true k) = r1' at *
      have r0 := hE.r0.cell
      have r1 := hE.r1.cell
      have r2 := hE.r2.cell
      have HE := Lib.hid hE
      have HDF := Lib.hid hdf
      clear hE hno hdf hk hh
      gi_wp2_with fail
      refine ⟨by simp, .inl ⟨_, _, rfl, run_takeDeferred HDF.out, ?_⟩⟩
      have hw5 := HE.out.touch (Touch.putObj (T := fun x => x = w2.heap.size) _ w2.heap.size (.deferred none) rfl) (fun j hj e => by have := HE2.out.r2.lt; omega) (Nat.le_refl _)
      have r0 := hw5.r0.cell
      have r1 := hw5.r1.cell
      have r2 := hw5.r2.cell
      refine ⟨.tuple #[.int .i64 r0', .int .i64 r1', .bool true], by simp [results, Try.results34, go_sem, r0, r1, r2], by rw [HSR.out], hw5.b⟩
  | false =>
    have hmax : max i 0 = p := by rw [HP.out]; rfl
    gi_wp2_with fail
    generalize hW0 : (((((w.alloc (.cells #[.string t] 9)).alloc (.cells #[.bool false] 4)).alloc (.cells #[.bool begins] 4)).alloc (.cells #[.int .i64 0] 3)).alloc (.cells #[.int .i64 0] 3)).alloc (.cells #[.bool false] 4) = W0 at *
    clear hW0
    gi_wp2_with (first
      | (gi_at_call 50; refine (callsIn_wide.2 (CK.out _ HE0.out.b)).mono ?_; rintro e w1 ⟨rfl, hb⟩; have HE1 := Lib.hid (HE0.out.touch (U := fun _ => False) (Touch.of_below hb) (fun _ _ h => h) (Nat.le_refl _)); have hA := fun o => (HE1.out.touch (U := fun _ => False) (Touch.alloc _ w1 o) (fun _ _ h => h) (Nat.le_refl _)).t1.cell; clear hb)
      | (gi_at_call 52; have hE2 := (HE1.out.touch (U := fun _ => False) (Touch.alloc _ w1 (.cells #[.slice A n c, .int .i64 x0, .int .i64 y0] 85)) (fun _ _ h => h) (Nat.le_refl _)); refine (callsIn_wide.2 (CF.out _ p hE2.b)).mono ?_; rintro e w2 ⟨rfl, hit, hb⟩; have HE2 := Lib.hid (hE2.touch (U := fun _ => False) (Touch.of_below hb) (fun _ _ h => h) (Nat.le_refl _)); have HIT := Lib.hid hit; clear hit hb hE2))
    obtain ⟨B, hB⟩ : ∃ B, B = w1.heap.size + 1 := ⟨_, rfl⟩
    have hsz1 : (w1.alloc (.cells #[.slice A n c, .int .i64 x0, .int .i64 y0] 85)).heap.size = w1.heap.size + 1 := by simp
    rw [hsz1, ← hB] at HIT
    rw [← hB]
    have HBB := Lib.hid hB
    clear hB hsz1
    have HNN : Hid (itN l.length p false = itN n p false) := Lib.hid (by rw [HN.out])
    refine range_law2f (R := ItR l p false) rfl (enters_of Try.func73 (by kernel_rfl) rfl) (from_iter w2 B _ l p false (HN.out ▸ HIT.out) HL.out) (HIT.out.lt)
      (fun k Wz => SEnv w.heap.size t false begins 0 0 false w Wz ∧ ∀ j, j < k → F (srcTxt l p false j) < 0)
      (fun cd Wz => cd = .ret ∧ ∃ k, k < itN l.length p false ∧ (∀ j, j < k → F (srcTxt l p false j) < 0) ∧ 0 ≤ F (srcTxt l p false k) ∧ SEnv w.heap.size t false begins (itP p false k) (F (srcTxt l p false k)) true w Wz) ?_ ?_ ⟨HE2.out, fun j hj => by omega⟩
      (fun _ y V => V.alloc (.cells (aggOf y) 69)) (fun _ _ V => (Below.refl _ _).alloc (Nat.le_refl _) _) (fun x _ V t => (t.setIfInBounds 14 x).setIfInBounds 15 (.pointer (some ⟨V.heap.size, 0, none⟩))) ?_ ?_ ?_ ?_
    · rintro k Wa Wb ⟨h1, h2⟩ ht
      exact ⟨h1.touch ht (fun j hj h => by have := HE2.out.r2.lt; omega) (Nat.le_refl _), h2⟩
    · rintro cd Wa Wb ⟨h0, k, h1, h2, h3, h4⟩ ht
      exact ⟨h0, k, h1, h2, h3, h4.touch ht (fun j hj h => by have := HE2.out.r2.lt; omega) (Nat.le_refl _)⟩
    · intro l0 k x y V K1 hr hK
      obtain ⟨j, z, hj, rfl, hz, rfl⟩ := hr
      gi_wp2_with fail
      exact hK
    · intro l0 k x y V Wr hk hr hI hlt hnew hsz hbm
      obtain ⟨j, z, hj, rfl, hz, rfl⟩ := hr
      obtain ⟨hE, hno⟩ := hI
      have hbox : Wr.heap[V.heap.size]? = some (.cells #[.string z.1, .int .i64 z.2] 69 (0, 0)) := (hnew _ (Nat.le_refl _)).trans (alloc_new _ _)
      have c0 := cell_of_row Wr _ 0 _ _ _ hbox
      have e0 := hE.t0.cell
      have e1 := hE.t1.cell
      have e2 := hE.t2.cell
      have CX := Lib.hid (HF.out Wr hE.b z (List.mem_of_getElem? hz))
      have htx : srcTxt l p false k = z.1 := by unfold srcTxt; rw [hj]; simp [hz]
      have HE := Lib.hid hE
      have HNO := Lib.hid hno
      have HTX := Lib.hid htx
      have HJ := Lib.hid hj
      have HK := Lib.hid hk
      have HLT := Lib.hid hlt
      have HSZ : Hid (Wr.heap.size = V.heap.size + 1) := Lib.hid (by rw [hsz]; simp)
      have h1l : 1 ≤ 8 - 1 - 1 := by decide
      clear hE hno htx hj hk hlt hsz hbm hnew hz hbox
      obtain ⟨r, hr⟩ : ∃ r, F z.1 = r := ⟨_, rfl⟩
      rw [hr] at CX
      have HR := Lib.hid hr
      have HE2r : Hid (w.heap.size + 5 < w2.heap.size) := Lib.hid HE2.out.r2.lt
      clear hr
      by_cases h0 : 0 ≤ r
      · have d0 : decide (0 ≤ r) = true := decide_eq_true h0
        gi_wp2_with (gi_at_call 64; refine (CallsIn.inRound l0 (callsIn_wide.2 CX.out)).mono ?_; rintro e Ws ⟨rfl, hb⟩; have HE2 := Lib.hid (HE.out.touch (U := fun _ => False) (Touch.of_below hb) (fun _ _ h => h) (Nat.le_refl _)); have HB2 := Lib.hid hb; have r0 := HE2.out.r0.cell; have r1 := HE2.out.r1.cell; have r2 := HE2.out.r2.cell; have q0 := HE2.out.r0.frozen; have q1 := HE2.out.r1.frozen; have q2 := HE2.out.r2.frozen; clear hb)
        have hr : F (srcTxt l p false k) = r := by rw [HTX.out]; exact HR.out
        have hw4 := HE2.out.write (itP p false k) (F (srcTxt l p false k)) true (Nat.le_refl _)
        rw [hr, HJ.out] at hw4
        have hb1 := HE2.out.r0.lt
        have hb2 := HB2.out.size
        have hb3 := HSZ.out
        refine ⟨⟨?_, ?_⟩, rfl, k, HK.out, HNO.out, by rw [hr]; exact h0, by rw [hr, HJ.out]; exact hw4⟩
        · simp only [World.setCell]
          simp
          omega
        · intro q hq
          have := HLT.out
          have := HE.out.r2.lt
          have := HE2r.out
          rw [Below.heap_setCell _ _ _ q (by show q ≠ w.heap.size + 1 + 1 + 1 + 1 + 1; omega), Below.heap_setCell _ _ _ q (by show q ≠ w.heap.size + 1 + 1 + 1 + 1; omega), Below.heap_setCell _ _ _ q (by show q ≠ w.heap.size + 1 + 1 + 1; omega)]
          exact HB2.out.block q (by omega)
      · have d0 : decide (0 ≤ r) = false := decide_eq_false h0
        gi_wp2_with (gi_at_call 64; refine (CallsIn.inRound l0 (callsIn_wide.2 CX.out)).mono ?_; rintro e Ws ⟨rfl, hb⟩; have HE2 := Lib.hid (HE.out.touch (U := fun _ => False) (Touch.of_below hb) (fun _ _ h => h) (Nat.le_refl _)); have HB2 := Lib.hid hb; clear hb)
        have hr : F (srcTxt l p false k) = r := by rw [HTX.out]; exact HR.out
        refine ⟨⟨HB2.out.size, fun q hq => HB2.out.block q ?_⟩, HE2.out, fun j' hj' => ?_⟩
        · have h3 := HSZ.out
          have h4 := HLT.out
          rcases hq with hq | hq | hq | hq
          · have := HIT.out.lt q (HN.out ▸ hq)
            omega
          all_goals omega
        · rcases Nat.lt_or_ge j' k with h | h
          · exact HNO.out j' h
          · obtain rfl : j' = k := by omega
            rw [hr]
            omega
    · rintro Wz ⟨hE, hno⟩ hdf
      have HSR := Lib.hid (HRV.out.trans (srcV_none hno))
      have r0 := hE.r0.cell
      have r1 := hE.r1.cell
      have r2 := hE.r2.cell
      have q0 := hE.r0.frozen
      have q1 := hE.r1.frozen
      have q2 := hE.r2.frozen
      have HE := Lib.hid hE
      have HDF := Lib.hid hdf
      clear hE hno hdf
      gi_wp2_with fail
      have hw4 := HE.out.write 0 0 false (Nat.le_refl _)
      have hd4 : ((((Wz.setCell ⟨w.heap.size + 1 + 1 + 1, 0, none⟩ (.int .i64 0)).setCell ⟨w.heap.size + 1 + 1 + 1 + 1, 0, none⟩ (.int .i64 0)).setCell ⟨w.heap.size + 1 + 1 + 1 + 1 + 1, 0, none⟩ (.bool false))).heap[w2.heap.size]? = some (.deferred (some [])) := by
        have := HE2.out.r2.lt
        rw [Below.heap_setCell _ _ _ _ (by show w2.heap.size ≠ w.heap.size + 1 + 1 + 1 + 1 + 1; omega), Below.heap_setCell _ _ _ _ (by show w2.heap.size ≠ w.heap.size + 1 + 1 + 1 + 1; omega), Below.heap_setCell _ _ _ _ (by show w2.heap.size ≠ w.heap.size + 1 + 1 + 1; omega)]
        exact HDF.out
      refine ⟨by simp, .inl ⟨_, _, rfl, run_takeDeferred hd4, ?_⟩⟩
      have hw5 := hw4.touch (Touch.putObj (T := fun x => x = w2.heap.size) _ w2.heap.size (.deferred none) rfl) (fun j hj e => by have := HE2.out.r2.lt; omega) (Nat.le_refl _)
      have r0 := hw5.r0.cell
      have r1 := hw5.r1.cell
      have r2 := hw5.r2.cell
      refine ⟨.tuple #[.int .i64 0, .int .i64 0, .bool false], by simp [results, Try.results34, go_sem, r0, r1, r2], by rw [HSR.out], hw5.b⟩
    · rintro cd Wz ⟨rfl, k, hk, hno, hh, hE⟩ hdf
      have HSR := Lib.hid (HRV.out.trans (srcV_hit hk hno hh))
      generalize itP p false k = r0' at *
      generalize F (srcTxt l p false k) = r1' at *
      have r0 := hE.r0.cell
      have r1 := hE.r1.cell
      have r2 := hE.r2.cell
      have HE := Lib.hid hE
      have HDF := Lib.hid hdf
      clear hE hno hdf hk hh
      gi_wp2_with fail
      refine ⟨by simp, .inl ⟨_, _, rfl, run_takeDeferred HDF.out, ?_⟩⟩
      have hw5 := HE.out.touch (Touch.putObj (T := fun x => x = w2.heap.size) _ w2.heap.size (.deferred none) rfl) (fun j hj e => by have := HE2.out.r2.lt; omega) (Nat.le_refl _)
      have r0 := hw5.r0.cell
      have r1 := hw5.r1.cell
      have r2 := hw5.r2.cell
      refine ⟨.tuple #[.int .i64 r0', .int .i64 r1', .bool true], by simp [results, Try.results34, go_sem, r0, r1, r2], by rw [HSR.out], hw5.b⟩
/-- Search of a history that no call made -/
theorem search_n (w : World) (q : Option Addr) (h : NoneP w q) (i : Int) (t : ByteArray) (back begins : Bool) : Calls Try.prog 34 #[.pointer q, .int .i64 i, .string t, .bool back, .bool begins] w fun e w' => e = .returned (.tuple #[.int .i64 0, .int .i64 0, .bool false]) ∧ Below w.heap.size w w' := by
  refine (search_g (fun _ => 0) w q (.slice none 0 0) [] 0 0 i t back begins (by simp) (fun W hb => kept_n W q (h.below hb)) (Seg.nil _ _ _) (fun _ _ z hz => by cases hz)).mono ?_
  rintro e w' ⟨rfl, hb⟩
  have h0 : ∀ p : Int, itN ([] : List HL).length p back = 0 := fun p => by
    unfold itN
    rw [if_neg]
    intro hp
    have := plc_iff.1 hp
    simp at this
    omega
  have : srcV (fun _ => 0) [] (srcFrom ([] : List HL).length i back) back = (0, 0, false) := srcV_none fun j hj => by rw [h0] at hj; omega
  rw [this]
  exact ⟨rfl, hb⟩
end Go.Proofs.Ytojhppcnpjajaaa
