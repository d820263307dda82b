/-
  A decoder's Flush; a slice of slices of bytes; two rows of the call's own side by side.
-/
import Derived.Test.YtalfodcjpnjmaaaDoorPutD
import Derived.Test.YtalfodcjpnjmaaaDoorStreamP
namespace Go.Proofs.YtalfodcjpnjmaaaDoor
open Go.RowKit

/-- what Flush leaves -/
def FlushPost (w : World) (g : Nat) (h : List UInt8) (e : Ending) (w' : World) : Prop :=
  ∃ (r : Value) (x0 x1 x2 : UInt8), e = .returned r ∧ w'.ownsRow w.heap.size 21 1 r (decAll h).length (runeVals (decAll h)) ∧ DecAt w' g x0 x1 x2 0 ∧ w.grownBy w' (some g)

theorem flush_any (g : Nat) (h0 h1 h2 : UInt8) (n : Nat) (w : World) (hT : Tabs w) (hd : DecAt w g h0 h1 h2 n) (hn : n ≤ 3) :
    Calls Tryd.prog 34 #[.pointer (some ⟨g, 0, none⟩)] w (FlushPost w g (heldOf h0 h1 h2 n)) := by
  have CU := Lib.hid (usable_any g h0 h1 h2 n w hd)
  have hc4 : w.cell? ⟨g, 4, none⟩ = some (.int .i64 n) := cell_of_row w g 4 _ _ _ hd
  have hsl := slice_held g n hn
  have hl : (heldOf h0 h1 h2 n).length = n := by simp [heldOf]; omega
  have HH := Lib.hid (held_holds hd hn)
  have HD := Lib.hid hd
  have HT := Lib.hid hT
  have CR := Lib.hid (runes_any (heldOf h0 h1 h2 n) (.slice (some ⟨g, 1, none⟩) n 3) w.drew (hT.below (Below.refl _ _).drew) (HH.out.below (Below.refl _ _).drew) (by rw [hl]; omega))
  clear hd hT hl HH
  generalize heldOf h0 h1 h2 n = q at *
  go_enter Tryd.func34, Tryd.ntmps34
  go_wp2_with (go_at_call 47; refine (CU.out).mono ?_; rintro e w' ⟨rfl, rfl⟩)
  have hc4' : ({ heap := w.heap, tape := w.tape, drawn := w.drawn + 1, os := w.os, output := w.output } : World).cell? ⟨g, 4, none⟩ = some (.int .i64 n) := hc4
  go_still_tail 8, (by kernel_rfl)
  change wpList _ _ _ _ _ w.drew
  clear hc4' hc4 CU hsl
  go_wp2_with fail
  refine (CR.out).mono ?_
  rintro e w1 ⟨r1, rfl, ho1, hb1⟩
  have hB : Below w.heap.size w w1 := ((Below.refl w.heap.size w).drew).trans hb1
  have hd1 := HD.out.kept hB
  have hgw := HD.out.lt
  have hc : w1.cell? ⟨g, 4, none⟩ = some (.int .i64 n) := cell_of_row w1 g 4 _ _ _ hd1
  have hf : w1.frozen? ⟨g, 4, none⟩ = false := frozen_of_row w1 g 4 _ _ hd1
  have HC := Lib.hid (hd1.count 0)
  have HO := Lib.hid ho1
  clear hd1 ho1
  go_wp2
  go_ret
  refine ⟨_, h0, h1, h2, rfl, own_only HO.out HC.out.2 hgw, HC.out.1, only_after hB HC.out.2⟩

/-- a slice that holds values, appended to a row of the call's own: only that row turns -/
theorem append_only {P : Program} {ops : Array Oper} {rest : List Oper} {o : Oper} {a : Act} {Q : Exit → Act → World → Prop} (w : World) (hgd : o.guard = none) (s x : Operand) (t : TypeId)
    (ho : o.op = .call { callee := .builtin .append, args := #[s, x], argTypes := #[t, t] })
    (base : Nat) (e : TypeId) (i : TypeInfo) (z : Value) (bytes : Nat) (ht : P.underlying t = some (.slice e)) (hi : P.info? e = some i) (hz : i.zero = some z)
    (hsize : i.size = 1) (hby : i.bytes = bytes) (hzs : z.cells.size = 1) (v : Value) (n : Nat) (xs : List Value) (hs : a.eval s = v) (hown : w.ownsRow base e 1 v n xs)
    (v2 : Value) (news : List Value) (hu : ∀ u ∈ news, u.oneCell' = true) (hx : a.eval x = v2) (hr : Holds1 w v2 news) (h63 : n + news.length ≤ maxLen) (hbytes : (n + news.length) * bytes ≤ 140737488355328) (hbase : base ≤ w.heap.size)
    (h : ∀ v' w', w'.ownsRow base e 1 v' (n + news.length) (xs ++ news) → w.grownBy w' v.ownBlock → wpList P ops Q rest (a.put o.dst v') w') : wpList P ops Q (o :: rest) a w := by
  obtain ⟨A, c, rfl, ⟨hc, hnil⟩, hcells⟩ := hr
  cases A with
  | none =>
    obtain rfl := hnil rfl
    obtain rfl : news = [] := List.eq_nil_of_length_eq_zero (by omega)
    refine wpList_append_own_none hgd s x t ho base e i 1 ht hi v n xs hs hown hx ?_
    exact h v w (by simpa using hown) (World.grownBy.refl w _)
  | some ad =>
    refine wpList_append_own _ hgd s x t ho base e i z 1 bytes ht hi hz hsize hby hzs (by decide) v n xs hs hown ad news.length c news hx (by simp) ?_ hu h63 hbytes hbase ?_
    · intro j y hj
      have hl : j < news.length := (List.getElem?_eq_some_iff.1 hj).1
      obtain ⟨b, off, hA, _, hcell⟩ := hcells (by omega)
      injection hA with hA
      subst hA
      have := hcell j y hj
      unfold Addr.add
      split
      · next e0 => subst e0; exact this
      · exact this
    · intro v' w' ho' hg _
      exact h v' w' ho' hg

/-- a row of another type is left as it was -/
theorem own_other {w w' : World} {base base' : Nat} {e e' : TypeId} {v v' : Value} {n n' : Nat} {xs xs' : List Value} (h : w.ownsRow base e 1 v n xs) (h' : w.ownsRow base' e' 1 v' n' xs') (hne : e ≠ e') (hg : w.grownBy w' v'.ownBlock) : w'.ownsRow base e 1 v n xs := by
  refine h.kept hg ?_
  rcases h.2 with ⟨rfl, _⟩ | ⟨g, cap, cur, rfl, _, hh, _⟩
  · exact .inl rfl
  · refine .inr ?_
    rcases h'.2 with ⟨rfl, _⟩ | ⟨g', cap', cur', rfl, _, hh', _⟩
    · simp [Value.ownBlock]
    · intro he
      have : g = g' := by simpa [Value.ownBlock] using he
      subst this
      rw [hh] at hh'
      injection hh' with hh'
      injection hh' with _ ht
      exact hne ht
theorem dec_other {w w' : World} {g base : Nat} {h0 h1 h2 : UInt8} {n m : Nat} {e : TypeId} {v : Value} {xs : List Value} (hd : DecAt w g h0 h1 h2 n) (h : w.ownsRow base e 1 v m xs) (hlt : g < base) (hg : w.grownBy w' v.ownBlock) : DecAt w' g h0 h1 h2 n :=
  (hg.block g hd.lt (fun e => by have := (h.lt g e.symm).1; omega)).trans hd
theorem grown_row {w0 w w' : World} {g base : Nat} {e : TypeId} {v : Value} {m : Nat} {xs : List Value} (h0 : w0.grownBy w (some g)) (h : w.ownsRow base e 1 v m xs) (hbase : w0.heap.size ≤ base) (hg : w.grownBy w' v.ownBlock) : w0.grownBy w' (some g) :=
  ⟨hg.os.trans h0.os, hg.tape.trans h0.tape, hg.output.trans h0.output, Nat.le_trans h0.size hg.size, fun i hi hne => (hg.block i (Nat.lt_of_lt_of_le hi h0.size) (fun e => by have := (h.lt i e.symm).1; omega)).trans (h0.block i hi hne)⟩

/-- a slice of slices of bytes -/
def HoldsRows (w : World) (v : Value) (ps : List (List UInt8)) : Prop :=
  ∃ A c, v = .slice A ps.length c ∧ (0 < ps.length → ∃ b off, A = some ⟨b, off, none⟩ ∧ b < w.heap.size ∧ ∀ k (hk : k < ps.length), ∃ A' c', w.cell? ⟨b, off + k, none⟩ = some (.slice A' ps[k].length c') ∧ Holds1 w (.slice A' ps[k].length c') (byteVals ps[k]))

end Go.Proofs.YtalfodcjpnjmaaaDoor
