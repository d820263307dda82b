/-
  What lies while a script of steps is done: the list of edits, the line as it is, the lines that were noted. No program is walked here, and nothing is assumed.
-/
import Derived.Test.YtjgjbdpknfplkaaUdDone
namespace Go.Proofs.Ytjgjbdpknfplkaa
open Go.RowKit Go.Shelf Go.Lib
attribute [local go_sem] Oper.semAt_some

/-- lines that were noted, the oldest first: a row of slices, each a row of its own -/
def WRow (W : World) (B : Nat) (v : Value) (ws : List (List Int)) : Prop :=
  ∃ ps : List (List Int × Value), ps.map Prod.fst = ws ∧ W.ownsRow B 22 1 v ws.length (ps.map Prod.snd) ∧ ∀ p ∈ ps, RRow W B p.2 p.1
theorem rune_ne_runes : 21 ≠ 22 := by decide
theorem own_notlist {W W' : World} {B size n g : Nat} {e : TypeId} {v : Value} {xs : List Value} {cs : Array Value} {fr : Nat × Nat} (h : W.ownsRow B e size v n xs) (hg : W.heap[g]? = some (.cells cs 73 fr)) (hne : e ≠ 73) (ht : Touch (Only g) W W') : W'.ownsRow B e size v n xs := by
  refine own_same h fun k hk => ?_
  refine ht.block k (own_lt h k hk).2 fun hkg => ?_
  simp only [Only] at hkg
  subst hkg
  obtain ⟨cur, hh⟩ := own_kind h hk
  rw [hg] at hh
  injection hh with hh
  injection hh with _ h2
  exact hne h2.symm
theorem WRow.below {W W' : World} {B : Nat} {v : Value} {ws : List (List Int)} (h : WRow W B v ws) (hb : Below W.heap.size W W') : WRow W' B v ws := by
  obtain ⟨ps, h1, h2, h3⟩ := h
  exact ⟨ps, h1, own_below h2 hb, fun p hp => (h3 p hp).below hb⟩
theorem WRow.touch {W W' : World} {B g : Nat} {v : Value} {ws : List (List Int)} {cs : Array Value} {fr : Nat × Nat} (h : WRow W B v ws) (hg : W.heap[g]? = some (.cells cs 73 fr)) (ht : Touch (Only g) W W') : WRow W' B v ws := by
  obtain ⟨ps, h1, h2, h3⟩ := h
  exact ⟨ps, h1, own_notlist h2 hg (by decide) ht, fun p hp => own_notlist (h3 p hp) hg (by decide) ht⟩
theorem WRow.nil (W : World) (B : Nat) : WRow W B (.slice none 0 0) [] := ⟨[], rfl, World.ownsRow_nil _ _ _ _, fun p hp => by cases hp⟩
theorem WRow.form {W : World} {B : Nat} {v : Value} {ws : List (List Int)} (h : WRow W B v ws) : ∃ A c, v = .slice A ws.length c := by
  obtain ⟨ps, _, h2, _⟩ := h
  obtain ⟨A, c, e, _⟩ := own_form h2
  exact ⟨A, c, e⟩
/-- the noted line at a place -/
theorem WRow.at {W : World} {B : Nat} {v : Value} {ws : List (List Int)} (h : WRow W B v ws) {k : Nat} {x : List Int} (hk : ws[k]? = some x) : ∃ b c A n c', v = .slice (some ⟨b, 0, none⟩) ws.length c ∧ W.cell? ⟨b, k, none⟩ = some (.slice A n c') ∧ Holds1 W (.slice A n c') (runeVals x) := by
  obtain ⟨ps, rfl, h2, h3⟩ := h
  rw [List.getElem?_map] at hk
  obtain ⟨p, hp, rfl⟩ := Option.map_eq_some_iff.1 hk
  have hr := h3 p (List.mem_of_getElem? hp)
  obtain ⟨A, n, c', e⟩ := hr.form3
  have hlt := (List.getElem?_eq_some_iff.1 hp).1
  rcases h2.2 with ⟨_, h0⟩ | ⟨g, cap, cur, rfl, _, hg, hn, _, hs, ht⟩
  · rw [List.length_map] at h0
    omega
  · refine ⟨g, cap, A, n, c', rfl, ?_, e ▸ hr.holds⟩
    rw [cell_of_row W g k cur _ (0, 0) hg, ← e]
    have : (ps.map Prod.snd)[k]? = some p.2 := by rw [List.getElem?_map, hp]; rfl
    rw [← ht, List.getElem?_take] at this
    split at this
    · rw [← this, Array.getElem?_toList]
    · cases this
theorem info_runes : (Try.prog.info? 22).map (fun i => (i.zero, i.size, i.bytes)) = some (some (.slice none 0 0), 1, 24) := by kernel_rfl
/-- the script's state -/
structure TS (w0 W : World) (g : Nat) (K : Nat → Prop) (S : LS) (nv : Value) (now : List Int) (wv : Value) (ws : List (List Int)) : Prop where
  lat : LAt K W g S
  now : RRow W w0.heap.size nv now
  was : WRow W w0.heap.size wv ws
  wk : ∀ k, wv.ownBlock = some k → ¬ K k ∧ k ≠ g
  kb : ∀ k, K k → w0.heap.size ≤ k
  gb : w0.heap.size ≤ g
  b : Below w0.heap.size w0 W
section
variable {w0 W W' : World} {g : Nat} {K : Nat → Prop} {S S' : LS} {nv wv : Value} {now : List Int} {ws : List (List Int)}
theorem TS.below (h : TS w0 W g K S nv now wv ws) (hb : Below W.heap.size W W') : TS w0 W' g K S nv now wv ws :=
  ⟨h.lat.below hb, h.now.below hb, h.was.below hb, h.wk, h.kb, h.gb, h.b.trans (hb.mono h.b.size)⟩
theorem LAt.listed (h : LAt K W g S) : ∃ cs, W.heap[g]? = some (.cells cs 73 (0, 0)) := by
  obtain ⟨p, h1, _⟩ := h.ex
  exact ⟨_, h1⟩
/-- the list was called -/
theorem TS.call (h : TS w0 W g K S nv now wv ws) (hl : LAt K W' g S') (ht : Touch (Only g) W W') : TS w0 W' g K S' nv now wv ws := by
  obtain ⟨cs, hc⟩ := h.lat.listed
  exact ⟨hl, own_notlist h.now hc (by decide) ht, h.was.touch hc ht, h.wk, h.kb, h.gb, h.b.trans (ht.below h.b.size fun k hk => by simp only [Only] at hk; have := h.gb; omega)⟩
/-- an edit was added -/
theorem TS.add (h : TS w0 W g K S nv now wv ws) (hl : LAt (More K W W') W' g S') (ht : Touch (Only g) W W') : TS w0 W' g (More K W W') S' nv now wv ws := by
  obtain ⟨cs, hc⟩ := h.lat.listed
  refine ⟨hl, own_notlist h.now hc (by decide) ht, h.was.touch hc ht, fun k hk => ?_, ?_, h.gb, h.b.trans (ht.below h.b.size fun k hk => by simp only [Only] at hk; have := h.gb; omega)⟩
  · obtain ⟨h1, h2⟩ := h.wk k hk
    refine ⟨?_, h2⟩
    rintro (h3 | ⟨h3, _⟩)
    · exact h1 h3
    · obtain ⟨ps, _, h4, _⟩ := h.was
      have := (own_lt h4 k hk).2
      omega
  · rintro k (hk | ⟨hk, _⟩)
    · exact h.kb k hk
    · exact Nat.le_trans h.b.size hk
/-- the line as it is goes on as another one -/
theorem TS.next (h : TS w0 W g K S nv now wv ws) {v : Value} {l : List Int} (hr : RRow W w0.heap.size v l) : TS w0 W g K S v l wv ws := ⟨h.lat, hr, h.was, h.wk, h.kb, h.gb, h.b⟩
/-- the line as it is, noted -/
theorem TS.note (h : TS w0 W g K S nv now wv ws) (ty : TypeId) {b cp : Nat} {t2 : TypeId} {fr : Nat × Nat} (hb : W.heap[b]? = some (.cells #[nv] t2 fr)) (hl : ws.length ≤ 100000) :
    ∃ v' w', (Builtin.append_ #[57, 57] ty #[wv, .slice (some ⟨b, 0, none⟩) 1 cp]).run Try.prog W = .ok v' w' ∧ TS w0 w' g K S nv now v' (ws ++ [now]) ∧ (∀ v l, RRow W w0.heap.size v l → RRow w' w0.heap.size v l) ∧ (∀ (k : Nat) (cs : Array Value) (t : TypeId) (fr : Nat × Nat), W.heap[k]? = some (Obj.cells cs t fr) → t ≠ 22 → w'.heap[k]? = W.heap[k]?) ∧ Below w0.heap.size W w' := by
  obtain ⟨i, hi2, hz, hs2, hby⟩ := info_parts info_runes
  obtain ⟨ps, e1, h2, h3⟩ := h.was
  have hone : ∀ {v : Value} {l : List Int}, RRow W w0.heap.size v l → v.oneCell' = true := fun {v l} hr => slice_one hr
  have hsrc : Src W 1 (some ⟨b, 0, none⟩) cp 1 [nv] := ⟨rfl, (fun e => by cases e), fun _ => ⟨b, 0, rfl, (Array.getElem?_eq_some_iff.1 hb).1, fun j u hu => by
    rw [Nat.zero_add, cell_of_row W b j _ _ _ hb, ← Array.getElem?_toList]
    exact hu⟩⟩
  obtain ⟨v', w', hr, h4, h5, h6⟩ := run_append_src (P := Try.prog) W w0.heap.size 57 ty 22 i _ 1 24 Try.underlying57 hi2 hz hs2 hby rfl (by decide) wv ws.length (ps.map Prod.snd) h2 hsrc (fun u hu => by simp at hu; subst hu; exact hone h.now) (by unfold maxLen; omega) (by omega) h.b.size
  have hap : ∀ v l, RRow W w0.heap.size v l → RRow w' w0.heap.size v l := fun v l hv => own_apart hv h2 rune_ne_runes h5
  have hB : Below w0.heap.size W w' := grown_below h5 h.b.size fun k hk => (own_lt h2 k hk).1
  have hkn : ∀ (k : Nat) (cs : Array Value) (t : TypeId) (fr : Nat × Nat), W.heap[k]? = some (Obj.cells cs t fr) → t ≠ 22 → w'.heap[k]? = W.heap[k]? := fun k cs t fr hk hne => h5.block k (Array.getElem?_eq_some_iff.1 hk).1 (fun e => by
    obtain ⟨cur, hh⟩ := own_kind h2 e.symm
    rw [hk] at hh
    injection hh with hh
    injection hh with _ h8
    exact hne h8)
  have hag : Agree (fun k => K k ∨ k = g) W w' := ⟨h5.size, fun k hk hkl => h5.block k hkl (fun e => by
    obtain ⟨q1, q2⟩ := h.wk k e.symm
    rcases hk with hk | hk
    · exact q1 hk
    · exact q2 hk)⟩
  refine ⟨v', w', hr, ⟨h.lat.to hag, hap _ _ h.now, ⟨ps ++ [(now, nv)], by simp [e1], ?_, fun p hp => ?_⟩, fun k hk => ?_, h.kb, h.gb, h.b.trans hB⟩, hap, hkn, hB⟩
  · rw [List.length_append, List.map_append]
    exact h4
  · rcases List.mem_append.1 hp with hp | hp
    · exact hap _ _ (h3 p hp)
    · simp at hp
      subst hp
      exact hap _ _ h.now
  · rcases h6 with h6 | h6
    · rw [h6] at hk
      exact h.wk k hk
    · rw [h6] at hk
      injection hk with hk
      subst hk
      exact ⟨fun hk => Nat.lt_irrefl _ (h.lat.inw _ hk), fun e => by have := h.lat.lt; omega⟩
theorem TS.form (h : TS w0 W g K S nv now wv ws) : (∃ A c, nv = .slice A now.length c) ∧ ∃ A c, wv = .slice A ws.length c := ⟨h.now.form, h.was.form⟩
end
end Go.Proofs.Ytjgjbdpknfplkaa
