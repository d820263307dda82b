/-
  An argument that is a slice of slices of lines, with its bulk; the law's walk whatever is asked.
-/
import Derived.Test.YtojhppcnpjajaaaHlKeepW
import Derived.Test.YtojhppcnpjajaaaHlArg
namespace Go.Proofs.Ytojhppcnpjajaaa
open Go.ChangeShapes Go.WideShapes Go.ChangeAt Go.RowKit Go.ChangeMaps Go.Deep

theorem bulk_of {H : Type} {l : List (DataW H)} (h : Rows.uptoSmall H l = true) : Rows.uptoBulkAll l ≤ 1048576 := of_decide_eq_true h
theorem bulk_len {H : Type} (l : List (DataW H)) : l.length ≤ Rows.uptoBulkAll l := by
  induction l with
  | nil => exact Nat.zero_le _
  | cons d l ih =>
    have h1 : 1 ≤ Rows.uptoBulk d := by
      cases d with
      | lit x => cases x <;> simp [Rows.uptoBulk]
      | nil => simp [Rows.uptoBulk]
      | ptr d => simp [Rows.uptoBulk]
      | slice e s => simp [Rows.uptoBulk]
      | agg p => simp [Rows.uptoBulk]
      | iface t d => simp [Rows.uptoBulk]
      | map m => simp [Rows.uptoBulk]
      | held x => simp [Rows.uptoBulk]
    simp only [Rows.uptoBulkAll, List.length_cons]
    omega
theorem bulk_sum {H : Type} {D : Nat → DataW H} {f : Nat → Nat} {l : List Nat} (h : ∀ i ∈ l, f i ≤ Rows.uptoBulk (D i)) : (l.map f).sum ≤ Rows.uptoBulkAll (l.map D) := by
  induction l with
  | nil => exact Nat.le_refl _
  | cons i r ih =>
    have h1 := h i List.mem_cons_self
    have h2 := ih fun j hj => h j (List.mem_cons_of_mem _ hj)
    simp only [List.map_cons, List.sum_cons, Rows.uptoBulkAll]
    omega
set_option maxRecDepth 1000000 in
theorem rdU_of_trod {H : Type} {enc : TypeId × Value → H} {W : World} {t e : TypeId} {k : Nat} (ht : Try.prog.underlying t = some (.slice e)) (hk : Try.prog.cellsOf e = k) (hk0 : 0 < k) (X : Type) [Inhabited X] (Ok : X → List Value → Prop) (sz : X → Nat)
    (each : ∀ (fuel : Nat) (cs : List Value) (x : DataW H × List MemPlace), DataW.trod enc Try.prog W 0 (fun _ => true) true fuel e cs = some x → ∃ o : X, Ok o cs ∧ sz o ≤ Rows.uptoBulk x.1)
    {fuel : Nat} {cs0 : List Value} {x : DataW H × List MemPlace} (hf : DataW.trod enc Try.prog W 0 (fun _ => true) true fuel t cs0 = some x) :
    ∃ (v : Value) (l : List X), cs0 = [v] ∧ Rd W k Ok v l ∧ l.length + 1 ≤ Rows.uptoBulk x.1 ∧ (l.map sz).sum ≤ Rows.uptoBulk x.1 := by
  rcases open_slice ht hf with ⟨hcs, hx⟩ | ⟨a, len, c, m, n, D, Pl, hcs, _, hl, _, hm, hx, hall⟩
  · exact ⟨_, [], hcs, ⟨none, 0, rfl, Nat.le_refl _, fun _ => rfl, fun h => by simp at h⟩, by rw [hx]; simp [Rows.uptoBulk], by simp⟩
  · simp only [if_true] at hm
    subst hm
    rw [hk] at hall
    have eachI : ∀ i, ∃ o : X, i < len → ∃ cs', W.cells? 0 (a.add (i * k)) k = some cs' ∧ Ok o cs' ∧ sz o ≤ Rows.uptoBulk (D i) := fun i => by
      by_cases hi : i < len
      · obtain ⟨cs', h1, h2⟩ := hall i (by omega)
        obtain ⟨o, ho, hs⟩ := each _ _ _ h2
        exact ⟨o, fun _ => ⟨cs', h1, ho, hs⟩⟩
      · exact ⟨default, fun h => absurd h hi⟩
    obtain ⟨f, hfun⟩ := Classical.axiomOfChoice eachI
    refine ⟨_, (List.range len).map f, hcs, ?_, ?_, ?_⟩
    · refine ⟨some a, m, by rw [List.length_map, List.length_range], by rw [List.length_map, List.length_range]; exact hl, (fun h => by cases h), fun hp => ?_⟩
      rw [List.length_map, List.length_range] at hp
      obtain ⟨cs0, hc0, _⟩ := hfun 0 hp
      obtain ⟨_, hcl0, hat0⟩ := World.cells?_some hc0
      have hfirst := hat0 0 hk0
      obtain ⟨b, off, spot⟩ := a
      have hs0 : ∃ u, W.cell? ((⟨b, off, spot⟩ : Addr).add (0 * k) |>.add 0) = some u := ⟨cs0[0]'(by omega), by rw [hfirst]; simp⟩
      obtain ⟨u0, hu0⟩ := hs0
      have hspot : spot = none := by simpa [Addr.add] using World.cell?_spot hu0
      subst hspot
      refine ⟨b, off, rfl, ?_, fun i o ho => ?_⟩
      · rw [Go.WideShapes.add_plain, Go.WideShapes.add_plain] at hu0
        exact block_lt_of_cell hu0
      rw [List.getElem?_map] at ho
      obtain ⟨i', hi', rfl⟩ := Option.map_eq_some_iff.1 ho
      have hil : i < len := by have := (List.getElem?_eq_some_iff.1 hi').1; rwa [List.length_range] at this
      have hii : i' = i := by rw [List.getElem?_range hil] at hi'; exact (Option.some.inj hi').symm
      subst hii
      obtain ⟨cs', hc', ho', _⟩ := hfun i' hil
      obtain ⟨_, hcl, hat⟩ := World.cells?_some hc'
      refine ⟨cs', ho', hcl, fun j u hu => ?_⟩
      have hj : j < k := by have := (List.getElem?_eq_some_iff.1 hu).1; omega
      have h7 := hat j hj
      rw [hu, Go.WideShapes.add_plain, Go.WideShapes.add_plain] at h7
      exact h7
    · rw [List.length_map, List.length_range, hx]
      have := bulk_len ((List.range len).map D)
      rw [List.length_map, List.length_range] at this
      simp only [Rows.uptoBulk]
      omega
    · rw [List.map_map, hx]
      have := bulk_sum (D := D) (f := fun i => sz (f i)) (l := List.range len) fun i hi => (hfun i (List.mem_range.1 hi)).elim fun _ h => h.2.2
      simp only [Rows.uptoBulk]
      have e : List.map (sz ∘ f) (List.range len) = List.map (fun i => sz (f i)) (List.range len) := rfl
      rw [e]
      omega
theorem linesU_of_trod {H : Type} {enc : TypeId × Value → H} {W : World} {fuel : Nat} {cs : List Value} {x : DataW H × List MemPlace} (hf : DataW.trod enc Try.prog W 0 (fun _ => true) true fuel 22 cs = some x) :
    ∃ o : Value × List HL, (cs = [o.1] ∧ HH W o.1 o.2) ∧ o.2.length + 1 ≤ Rows.uptoBulk x.1 := by
  obtain ⟨v, l, h1, h2, h3, _⟩ := rdU_of_trod (k := 2) Try.underlying22 (by kernel_rfl) (by decide) HL (fun o cs => cs = hlCells o) (fun _ => 0) (fun fuel cs x h => (line_cells fuel cs x h).elim fun o ho => ⟨o, ho, Nat.zero_le _⟩) hf
  exact ⟨(v, l), ⟨h1, hh_of_rd h2⟩, h3⟩
instance : Inhabited (Value × List HL) := ⟨(.slice none 0 0, [])⟩
theorem partsU_of_arg {H : Type} {enc : TypeId × Value → H} {W : World} {a : Option Addr} {len cap : Nat} {d : DataW H} {p : List MemPlace} (h : DataW.Trod enc Try.prog W 0 (fun _ => true) true 64 (.slice a len cap) d p) :
    ∃ ps : List (List HL), PARTS W (.slice a len cap) ps ∧ (ps.map List.length).sum + ps.length ≤ Rows.uptoBulk d := by
  obtain ⟨fuel, hf⟩ := h
  obtain ⟨v, l, h1, h2, _, h3⟩ := rdU_of_trod (k := 1) (x := (d, p)) Try.underlying64 (by kernel_rfl) (by decide) (Value × List HL) (fun o cs => cs = [o.1] ∧ HH W o.1 o.2) (fun o => o.2.length + 1) (fun fuel cs x h => linesU_of_trod h) hf
  simp [Value.cells] at h1
  subst h1
  refine ⟨l.map (·.2), ?_, ?_⟩
  · obtain ⟨A, c, e, _, _, hp⟩ := h2.cells
    refine ⟨A, c, by rw [e, List.length_map], fun i q hq => ?_⟩
    rw [List.getElem?_map] at hq
    obtain ⟨o, ho, rfl⟩ := Option.map_eq_some_iff.1 hq
    obtain ⟨b, off, eA, hb, hat⟩ := hp (by have := (List.getElem?_eq_some_iff.1 ho).1; omega)
    obtain ⟨cs, ⟨hcs, hh⟩, _, hc⟩ := hat i o ho
    refine ⟨b, off, o.1, eA, hb, ?_, hh⟩
    have := hc 0 o.1 (by rw [hcs]; rfl)
    simpa using this
  · have key : ∀ l : List (Value × List HL), (l.map fun o => o.2.length + 1).sum = ((l.map (·.2)).map List.length).sum + (l.map (·.2)).length := by
      intro l
      induction l with
      | nil => rfl
      | cons o r ih =>
        simp only [List.map_cons, List.sum_cons, List.length_cons] at ih ⊢
        omega
    rw [← key]
    exact h3
theorem keeps_any (w : World) (m : Int) (A : Option Addr) (n c : Nat) (ps : List (List HL)) (hp : PARTS w (.slice A n c) ps) (hs : (ps.map List.length).sum + ps.length ≤ 1048576) :
    Calls Try.prog 5 #[.int .i64 m, .slice A n c] w fun e w' => e = .returned (.bool true) ∧ Below w.heap.size w w' := by
  rcases okMost_cases m with h | ⟨k, rfl, hk, _⟩
  · exact keeps_bad w m h A n c
  · obtain ⟨A', c', e, _⟩ := id hp
    injection e with _ e2 _
    subst e2
    exact keeps_ok w k hk A c ps hp hs
end Go.Proofs.Ytojhppcnpjajaaa
