/-
  A ring and the document's ring beside each other: what each operation leaves of both.
-/
import Derived.Test.YtknekldnipdpeaaKrFromW
namespace Go.Proofs.Ytknekldnipdpeaa
open Go.RowKit Go.Shelf Go.Lib

/-- both rings in memory -/
structure DI (w W : World) (g r : Nat) (S S' : KS) : Prop where
  ex : ∃ K K', RAt K W g S ∧ WAt K' W r S' ∧ ¬ K' g ∧ ¬ K r ∧ g ≠ r
  b : Below w.heap.size w W
  gw : w.heap.size ≤ g
  rw' : w.heap.size ≤ r
theorem DI.below {w W W' : World} {g r : Nat} {S S' : KS} (h : DI w W g r S S') (hb : Below W.heap.size W W') : DI w W' g r S S' := by
  obtain ⟨⟨K, K', h1, h2, h3⟩, h4, h5, h6⟩ := h
  exact ⟨⟨K, K', h1.below hb, h2.below hb, h3⟩, h4.trans (hb.mono h4.size), h5, h6⟩
theorem DI.lts {w W : World} {g r : Nat} {S S' : KS} (h : DI w W g r S S') : g < W.heap.size ∧ r < W.heap.size := by
  obtain ⟨⟨K, K', h1, h2, _⟩, _⟩ := h
  exact ⟨h1.lt, h2.lt⟩
theorem below_only {w W W' : World} {g : Nat} (hb : Below w.heap.size w W) (hg : w.heap.size ≤ g) (ht : Touch (Only g) W W') : Below w.heap.size w W' := hb.trans (ht.below hb.size fun k hk => by simp only [Only] at hk; omega)
theorem DI.kill {w W : World} {g r : Nat} {S S' : KS} (h : DI w W g r S S') (way : Int) (v : Value) (l : List Int) (hv : Holds1 W v (runeVals l)) :
    Calls Try.prog 11 #[.pointer (some ⟨g, 0, none⟩), .int .i64 way, v] W fun e W' => e = .returned (.int .i64 (killErr S way l)) ∧ DI w W' g r (killS S way l) S' ∧ Touch (Only g) W W' := by
  obtain ⟨⟨K, K', h1, h2, h3, h4, h5⟩, h6, h7, h8⟩ := h
  refine (kill_any W g S h1 way v l hv).mono ?_
  rintro e W' ⟨he, g1, g2⟩
  refine ⟨he, ⟨⟨_, K', g1, h2.to (Agree.of_touch g2 fun k hk e => ?_), h3, ?_, h5⟩, below_only h6 h7 g2, h7, h8⟩, g2⟩
  · simp only [Only] at e
    rcases hk with hk | hk
    · exact h3 (e ▸ hk)
    · exact h5 (e.symm.trans hk)
  · rintro (hk | ⟨hk, _⟩)
    · exact h4 hk
    · exact absurd h2.lt (by omega)
theorem DI.wkill {w W : World} {g r : Nat} {S S' : KS} (h : DI w W g r S S') (way : Int) (v : Value) (l : List Int) (hv : Holds1 W v (runeVals l)) :
    Calls Try.prog 12 #[.pointer (some ⟨r, 0, none⟩), .int .i64 way, v] W fun e W' => e = .returned (.int .i64 (killErr S' way l)) ∧ DI w W' g r S (killS S' way l) ∧ Touch (Only r) W W' := by
  obtain ⟨⟨K, K', h1, h2, h3, h4, h5⟩, h6, h7, h8⟩ := h
  refine (wkill_any W r S' h2 way v l hv).mono ?_
  rintro e W' ⟨he, g1, g2⟩
  refine ⟨he, ⟨⟨K, _, h1.to (Agree.of_touch g2 fun k hk e => ?_), g1, ?_, h4, h5⟩, below_only h6 h8 g2, h7, h8⟩, g2⟩
  · simp only [Only] at e
    rcases hk with hk | hk
    · exact h4 (e ▸ hk)
    · exact h5 (hk.symm.trans e)
  · rintro (hk | ⟨hk, _⟩)
    · exact h3 hk
    · exact absurd h1.lt (by omega)
/-- what is yanked -/
def yErr (S : KS) : Int := if S.es = [] then 6 else 0
def yTxt (S : KS) : List Int := (S.es[S.pl]?).getD []
def rotS (S : KS) (by' : Int) : KS := if S.es = [] then S else ⟨S.es, rotP S.es.length S.pl by'⟩
/-- an answer that is nobody's else, a place r apart -/
def Ans (W : World) (r : Nat) (S : KS) (e : Ending) : Prop := ∃ A n c, n = (yTxt S).length ∧ e = .returned (.tuple #[.slice A n c, .int .i64 (yErr S)]) ∧ OffR W r (.slice A n c) (yTxt S)
theorem Ans.nil {W : World} {r : Nat} {S : KS} (h : S.es = []) : Ans W r S (.returned (.tuple #[.slice none 0 0, .int .i64 6])) := by
  have h1 : yTxt S = [] := by unfold yTxt; rw [h]; rfl
  have h2 : yErr S = 6 := if_pos h
  exact ⟨none, 0, 0, by rw [h1]; rfl, by rw [h2], fun W' _ => by rw [h1]; exact holds_nil W'⟩
theorem Ans.row {W : World} {r B : Nat} {S : KS} {A : Option Addr} {c : Nat} {x : List Int} (hx : S.es[S.pl]? = some x) (hr : RRow W B (.slice A x.length c) x) (hB : r < B) : Ans W r S (.returned (.tuple #[.slice A x.length c, .int .i64 0])) := by
  have h1 : yTxt S = x := by unfold yTxt; rw [hx]; rfl
  have h2 : yErr S = 0 := if_neg (by rintro h; rw [h] at hx; simp at hx)
  exact ⟨A, x.length, c, by rw [h1], by rw [h2], by rw [h1]; exact hr.off hB⟩
theorem DI.yank {w W : World} {g r : Nat} {S S' : KS} (h : DI w W g r S S') : Calls Try.prog 13 #[.pointer (some ⟨g, 0, none⟩)] W fun e W' => Ans W' r S e ∧ DI w W' g r S S' ∧ Below W.heap.size W W' := by
  have hl := h.lts
  obtain ⟨K, K', h1, _⟩ := h.ex
  by_cases hn : S.es = []
  · refine (yank_none W g S h1 hn).mono ?_
    rintro e W' ⟨rfl, rfl⟩
    exact ⟨Ans.nil hn, h, Below.refl _ _⟩
  · obtain ⟨x, hx⟩ : ∃ x, S.es[S.pl]? = some x := ⟨_, List.getElem?_eq_getElem (h1.nonempty hn)⟩
    refine (yank_at W g S.es S.pl x h1 hx).mono ?_
    rintro e W' ⟨A, c, rfl, hr, hb⟩
    exact ⟨Ans.row hx hr hl.2, h.below hb, hb⟩
theorem DI.wyank {w W : World} {g r : Nat} {S S' : KS} (h : DI w W g r S S') : Calls Try.prog 14 #[.pointer (some ⟨r, 0, none⟩)] W fun e W' => Ans W' r S' e ∧ DI w W' g r S S' ∧ Below W.heap.size W W' := by
  have hl := h.lts
  obtain ⟨K, K', _, h1, _⟩ := h.ex
  by_cases hn : S'.es = []
  · refine (wyank_none W r S' h1 hn).mono ?_
    rintro e W' ⟨rfl, rfl⟩
    exact ⟨Ans.nil hn, h, Below.refl _ _⟩
  · have hp : S'.pl < S'.es.length := h1.pl.resolve_right fun h => hn h.2
    obtain ⟨x, hx⟩ : ∃ x, S'.es[S'.pl]? = some x := ⟨_, List.getElem?_eq_getElem hp⟩
    refine (wyank_at W r S'.es S'.pl h1 x hx).mono ?_
    rintro e W' ⟨A, c, rfl, hr, hb⟩
    exact ⟨Ans.row hx hr hl.2, h.below hb, hb⟩
theorem rotS_at {S : KS} (by' : Int) (hn : S.es ≠ []) : rotS S by' = ⟨S.es, rotP S.es.length S.pl by'⟩ ∧ rotP S.es.length S.pl by' < S.es.length :=
  ⟨if_neg hn, rotP_lt (List.length_pos_iff.2 hn) by'⟩
theorem DI.rotate {w W : World} {g r : Nat} {S S' : KS} (h : DI w W g r S S') (by' : Int) : Calls Try.prog 15 #[.pointer (some ⟨g, 0, none⟩), .int .i64 by'] W fun e W' => Ans W' r (rotS S by') e ∧ DI w W' g r (rotS S by') S' ∧ Touch (Only g) W W' := by
  have hl := h.lts
  by_cases hn : S.es = []
  · obtain ⟨K, K', h1, _⟩ := h.ex
    refine (rotate_none W g S h1 hn by').mono ?_
    rintro e W' ⟨rfl, rfl⟩
    have e1 : rotS S by' = S := if_pos hn
    rw [e1]
    exact ⟨Ans.nil hn, h, Touch.refl _ _⟩
  · obtain ⟨e1, hq⟩ := rotS_at by' hn
    obtain ⟨⟨K, K', h1, h2, h3, h4, h5⟩, h6, h7, h8⟩ := h
    obtain ⟨x, hx⟩ : ∃ x, S.es[rotP S.es.length S.pl by']? = some x := ⟨_, List.getElem?_eq_getElem hq⟩
    refine (rotate_at W g S.es S.pl _ by' x h1 (h1.nonempty hn) rfl hx).mono ?_
    rintro e W' ⟨A, c, rfl, hr, hR, ht⟩
    rw [e1]
    refine ⟨Ans.row (S := ⟨S.es, rotP S.es.length S.pl by'⟩) hx hr hl.2, ⟨⟨K, K', hR, h2.to (Agree.of_touch ht fun k hk e => ?_), h3, h4, h5⟩, below_only h6 h7 ht, h7, h8⟩, ht⟩
    simp only [Only] at e
    rcases hk with hk | hk
    · exact h3 (e ▸ hk)
    · exact h5 (e.symm.trans hk)
theorem DI.wrotate {w W : World} {g r : Nat} {S S' : KS} (h : DI w W g r S S') (by' : Int) : Calls Try.prog 16 #[.pointer (some ⟨r, 0, none⟩), .int .i64 by'] W fun e W' => Ans W' r (rotS S' by') e ∧ DI w W' g r S (rotS S' by') ∧ Touch (Only r) W W' := by
  have hl := h.lts
  by_cases hn : S'.es = []
  · obtain ⟨K, K', _, h1, _⟩ := h.ex
    refine (wrotate_none W r S' h1 hn by').mono ?_
    rintro e W' ⟨rfl, rfl⟩
    have e1 : rotS S' by' = S' := if_pos hn
    rw [e1]
    exact ⟨Ans.nil hn, h, Touch.refl _ _⟩
  · obtain ⟨e1, hq⟩ := rotS_at by' hn
    obtain ⟨⟨K, K', h1, h2, h3, h4, h5⟩, h6, h7, h8⟩ := h
    have hp : S'.pl < S'.es.length := h2.pl.resolve_right fun h => hn h.2
    obtain ⟨x, hx⟩ : ∃ x, S'.es[rotP S'.es.length S'.pl by']? = some x := ⟨_, List.getElem?_eq_getElem hq⟩
    refine (wrotate_at W r S'.es S'.pl _ by' x h2 hp rfl hx).mono ?_
    rintro e W' ⟨A, c, rfl, hr, hR, ht⟩
    rw [e1]
    refine ⟨Ans.row (S := ⟨S'.es, rotP S'.es.length S'.pl by'⟩) hx hr hl.2, ⟨⟨K, K', h1.to (Agree.of_touch ht fun k hk e => ?_), hR, h3, h4, h5⟩, below_only h6 h8 ht, h7, h8⟩, ht⟩
    simp only [Only] at e
    rcases hk with hk | hk
    · exact h4 (e ▸ hk)
    · exact h5 (hk.symm.trans e)
/-- a ring, its copy and the document's ring -/
structure DC (w W : World) (g g2 r : Nat) (S S' : KS) : Prop where
  di : DI w W g2 r S S'
  old : ∃ Kx Sx, RAt Kx W g Sx
  off : ∃ K K', RAt K W g2 S ∧ WAt K' W r S' ∧ ¬ K' g2 ∧ ¬ K r ∧ g2 ≠ r ∧ ¬ K g ∧ ¬ K' g ∧ g ≠ g2 ∧ g ≠ r
  gw : w.heap.size ≤ g
theorem DC.step {w W W' : World} {g g2 r : Nat} {S S' : KS} (h : DC w W g g2 r S S') (ht : Touch (Only g) W W') (hx : ∃ Kx Sx, RAt Kx W' g Sx) : DC w W' g g2 r S S' := by
  obtain ⟨K, K', h1, h2, h3, h4, h5, h6, h7, h8, h9⟩ := h.off
  have r1 : RAt K W' g2 S := h1.to (Agree.of_touch ht fun k hk e => by
    simp only [Only] at e
    rcases hk with hk | hk
    · exact h6 (e ▸ hk)
    · exact h8 (e.symm.trans hk))
  have r2 : WAt K' W' r S' := h2.to (Agree.of_touch ht fun k hk e => by
    simp only [Only] at e
    rcases hk with hk | hk
    · exact h7 (e ▸ hk)
    · exact h9 (e.symm.trans hk))
  exact ⟨⟨⟨K, K', r1, r2, h3, h4, h5⟩, below_only h.di.b h.gw ht, h.di.gw, h.di.rw'⟩, hx, ⟨K, K', r1, r2, h3, h4, h5, h6, h7, h8, h9⟩, h.gw⟩
theorem DI.clone {w W : World} {g r : Nat} {S S' : KS} (h : DI w W g r S S') : Calls Try.prog 17 #[.pointer (some ⟨g, 0, none⟩)] W fun e W' => e = .returned (.pointer (some ⟨W.heap.size, 0, none⟩)) ∧ DC w W' g W.heap.size r S S' ∧ Below W.heap.size W W' := by
  have hl := h.lts
  obtain ⟨⟨K, K', h1, h2, h3, h4, h5⟩, h6, h7, h8⟩ := h
  refine (clone_any W g S h1).mono ?_
  rintro e W' ⟨he, hR, hb⟩
  have n1 : ¬ K' W.heap.size := fun hk => Nat.lt_irrefl _ (h2.inw _ hk)
  have hs := h6.size
  exact ⟨he, ⟨⟨⟨K, K', hR, h2.below hb, n1, h4, by omega⟩, h6.trans (hb.mono h6.size), hs, h8⟩, ⟨K, S, h1.below hb⟩, ⟨K, K', hR, h2.below hb, n1, h4, by omega, h1.off, h3, by omega, h5⟩, h7⟩, hb⟩
theorem DC.kill {w W : World} {g g2 r : Nat} {S S' : KS} (h : DC w W g g2 r S S') (way : Int) (v : Value) (l : List Int) (hv : Holds1 W v (runeVals l)) :
    Calls Try.prog 11 #[.pointer (some ⟨g, 0, none⟩), .int .i64 way, v] W fun e W' => (∃ er, e = .returned (.int .i64 er)) ∧ DC w W' g g2 r S S' ∧ Touch (Only g) W W' := by
  obtain ⟨Kx, Sx, hR⟩ := h.old
  refine (kill_any W g Sx hR way v l hv).mono ?_
  rintro e W' ⟨he, g1, g2⟩
  exact ⟨⟨_, he⟩, h.step g2 ⟨_, _, g1⟩, g2⟩
theorem DC.rotate {w W : World} {g g2 r : Nat} {S S' : KS} (h : DC w W g g2 r S S') (by' : Int) : Calls Try.prog 15 #[.pointer (some ⟨g, 0, none⟩), .int .i64 by'] W fun e W' => (∃ A n c er, e = .returned (.tuple #[.slice A n c, .int .i64 er])) ∧ DC w W' g g2 r S S' ∧ Touch (Only g) W W' := by
  obtain ⟨Kx, Sx, hR⟩ := h.old
  by_cases hn : Sx.es = []
  · refine (rotate_none W g Sx hR hn by').mono ?_
    rintro e W' ⟨he, rfl⟩
    exact ⟨⟨_, _, _, _, he⟩, h, Touch.refl _ _⟩
  · obtain ⟨x, hx⟩ : ∃ x, Sx.es[rotP Sx.es.length Sx.pl by']? = some x := ⟨_, List.getElem?_eq_getElem (rotS_at by' hn).2⟩
    refine (rotate_at W g Sx.es Sx.pl _ by' x hR (hR.nonempty hn) rfl hx).mono ?_
    rintro e W' ⟨A, c, he, _, hR2, ht⟩
    exact ⟨⟨_, _, _, _, he⟩, h.step ht ⟨_, _, hR2⟩, ht⟩
end Go.Proofs.Ytknekldnipdpeaa
