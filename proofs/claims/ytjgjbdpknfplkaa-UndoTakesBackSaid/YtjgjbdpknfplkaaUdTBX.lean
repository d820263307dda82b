/-
  What lies while a script of steps is done: another list is called; edits of a list are edits that can be applied. No program is walked here, and nothing is assumed.
-/
import Derived.Test.YtjgjbdpknfplkaaUdTB
namespace Go.Proofs.Ytjgjbdpknfplkaa
open Go.RowKit Go.Shelf Go.Lib
attribute [local go_sem] Oper.semAt_some

theorem Chain.oks {K : Nat → Prop} {w : World} {q : Option Addr} {l : List (Ed × Nat)} (h : Chain K w q l) : ∀ x ∈ l, EdOk x.1 := by
  induction l generalizing q with
  | nil => intro x hx; cases hx
  | cons y l ih =>
    obtain ⟨b, r, dv, iv, _, _, _, _, ⟨_, _, h3⟩, hl⟩ := h
    intro x hx
    rcases List.mem_cons.1 hx with rfl | hx
    · exact h3
    · exact ih hl x hx
theorem numbered_mem {gs : List (List Ed)} {e : Ed} (h : e ∈ gs.flatten) : ∃ n, (e, n) ∈ numbered gs := by
  induction gs with
  | nil => simp at h
  | cons g r ih =>
    rw [List.flatten_cons, List.mem_append] at h
    rcases h with h | h
    · exact ⟨r.length + 1, List.mem_append.2 (.inl (List.mem_map.2 ⟨e, h, rfl⟩))⟩
    · obtain ⟨n, hn⟩ := ih h
      exact ⟨n, List.mem_append.2 (.inr hn)⟩
theorem LAt.edok {K : Nat → Prop} {w : World} {g : Nat} {S : LS} (h : LAt K w g S) : ∀ e ∈ S.gs.flatten, EdOk e := by
  intro e he
  obtain ⟨n, hn⟩ := numbered_mem he
  obtain ⟨p, _, hg⟩ := h.ex
  exact hg.chain.oks _ hn
theorem LAt.invok {K : Nat → Prop} {w : World} {g : Nat} {S : LS} (h : LAt K w g S) : ∀ e ∈ S.gs.flatten.map Ed.inv, e.d.length ≤ 35184372088832 ∧ e.i.length ≤ 35184372088832 := by
  intro e he
  obtain ⟨x, hx, rfl⟩ := List.mem_map.1 he
  exact ⟨(h.edok x hx).i, (h.edok x hx).d⟩
/-- another list was called -/
theorem TS.aside {w0 W W' : World} {g c : Nat} {K : Nat → Prop} {S S' : LS} {nv wv : Value} {now : List Int} {ws : List (List Int)} (h : TS w0 W g K S nv now wv ws) (hc : LAt K W c S') (hcg : c ≠ g) (hc0 : w0.heap.size ≤ c) (ht : Touch (Only c) W W') : TS w0 W' g K S nv now wv ws := by
  obtain ⟨cs, hcl⟩ := hc.listed
  refine ⟨h.lat.to (Agree.of_touch ht fun k hk e => ?_), own_notlist h.now hcl (by decide) ht, h.was.touch hcl ht, h.wk, h.kb, h.gb, h.b.trans (ht.below h.b.size fun k hk => by simp only [Only] at hk; omega)⟩
  simp only [Only] at e
  subst e
  rcases hk with hk | hk
  · exact hc.off hk
  · exact hcg hk
theorem wr_pred {a : Nat} (ha : a ≤ 100000) : wrap64 ((a : Int) - 1) = (a : Int) - 1 := by unfold wrap64; omega
theorem wi_pred {a : Nat} (ha : a ≤ 100000) : IntKind.i64.wrap ((a : Int) - 1) = (a : Int) - 1 := IntWalk.i64_in _ (by omega)
/-- a noted line's cell -/
theorem WRow.cellAt {W : World} {B b n c k : Nat} {ws : List (List Int)} {x : List Int} (h : WRow W B (.slice (some ⟨b, 0, none⟩) n c) ws) (hk : ws[k]? = some x) : ∃ A n' c', W.cell? ⟨b, k, none⟩ = some (.slice A n' c') ∧ Holds1 W (.slice A n' c') (runeVals x) := by
  obtain ⟨b', c2, A, n', c', e, h1, h2⟩ := h.at hk
  injection e with e1 _ _
  injection e1 with e1
  injection e1 with e1
  subst e1
  exact ⟨A, n', c', h1, h2⟩
/-- between two groups taken back -/
structure TB2 (w0 : World) (g : Nat) (K : Nat → Prop) (line : List Int) (wv : Value) (ws : List (List Int)) (nv iv : Value) (wr : World) (r : List (List Ed)) (opn : Nat) (joins : Bool) (l : List Int) (iw : Int) : Prop where
  i : iv = .int .i64 iw
  iw : iw = (r.length : Int) - 1
  ts : TS w0 wr g K ⟨r, opn, joins⟩ nv l wv ws
  rel : Rel r l ((ws.take r.length).reverse) line
  len : l.length ≤ 1024
  le : r.length ≤ ws.length
theorem Rel.step {g0 : List Ed} {r : List (List Ed)} {l line : List Int} {ws : List (List Int)} (h : Rel (g0 :: r) l ((ws.take (g0 :: r).length).reverse) line) (hl : (g0 :: r).length ≤ ws.length) : ∃ x, ws[r.length]? = some x ∧ Done l (g0.map Ed.inv) x ∧ Rel r x ((ws.take r.length).reverse) line := by
  have hlt : r.length < ws.length := by rw [List.length_cons] at hl; omega
  refine ⟨ws[r.length], List.getElem?_eq_getElem hlt, ?_⟩
  rw [List.length_cons, List.take_succ_eq_append_getElem hlt, List.reverse_append] at h
  exact h
end Go.Proofs.Ytjgjbdpknfplkaa
