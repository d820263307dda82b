/-
  What find answers; strings.HasPrefix and strings.Contains; the law's own has.
-/
import Derived.Test.YtojhppcnpjajaaaHlFindP
import Derived.Test.YtojhppcnpjajaaaHlLay
import Derived.Shelf.Strings.Search3
import Derived.Shelf.Strings.Prefix
import Derived.Shelf.Strings.LastIndexAll
namespace Go.Proofs.Ytojhppcnpjajaaa
open Go.RowKit Go.Shelf Go.Lib
attribute [local go_sem] Oper.semAt_some

/-- the library's variable holds some number -/
def MaxL (w : World) : Prop := ∃ m : Int, w.cell? ⟨0, 0, none⟩ = some (.int .i64 m)
theorem MaxL.lt {w : World} (h : MaxL w) : 0 < w.heap.size := by
  obtain ⟨m, h⟩ := h
  rcases Nat.lt_or_ge 0 w.heap.size with hl | hl
  · exact hl
  · have : w.heap[0]? = none := Array.getElem?_eq_none hl
    simp [World.cell?, this] at h
theorem MaxL.below {w w' : World} (h : MaxL w) (hb : Below w.heap.size w w') : MaxL w' := by
  have hl := h.lt
  obtain ⟨m, h⟩ := h
  exact ⟨m, (hb.cell (p := ⟨0, 0, none⟩) hl).trans h⟩
theorem hasPrefix_any (w : World) (s t : ByteArray) : Calls Try.prog 32 #[.string s, .string t] w fun e w' => e = .returned (.bool (hasPrefix s.data.toList t.data.toList)) ∧ w = w' :=
  (Any.strings_HasPrefix Try.layHasPrefix s t w).mono fun _ _ ⟨h1, h2⟩ => ⟨h1, h2.symm⟩
theorem contains_any (w : World) (s t : ByteArray) (hm : MaxL w) (hs : s.size ≤ 16384) : Calls Try.prog 33 #[.string s, .string t] w fun e w' => e = .returned (.bool (contains s.data.toList t.data.toList)) ∧ w = w' := by
  obtain ⟨m, hm⟩ := hm
  exact (Any.strings_Contains Try.layContains s t m w (by omega) hm).mono fun _ _ ⟨h1, h2⟩ => ⟨h1, h2.symm⟩
theorem index_any (w : World) (s t : ByteArray) (hm : MaxL w) (hs : s.size ≤ 16384) : Calls Try.prog 63 #[.string s, .string t] w fun e w' => e = .returned (.int .i64 (index s.data.toList t.data.toList)) ∧ w = w' := by
  obtain ⟨m, hm⟩ := hm
  exact (Any.strings_Index Try.layIndex s t m w (by omega) hm).mono fun _ _ ⟨h1, h2⟩ => ⟨h1, h2.symm⟩
theorem lastIndex_any (w : World) (s t : ByteArray) (hs : s.size ≤ 16384) : Calls Try.prog 80 #[.string s, .string t] w fun e w' => e = .returned (.int .i64 (lastIndex s.data.toList t.data.toList)) ∧ w = w' :=
  (Any.strings_LastIndex Try.layLastIndex s t (by omega) w).mono fun _ _ ⟨h1, h2⟩ => ⟨h1, h2.symm⟩
set_option maxRecDepth 1000000 in
theorem find_any (w : World) (s t : ByteArray) (back begins : Bool) (hm : MaxL w) (hs : s.size ≤ 16384) : Calls Try.prog 64 #[.string s, .string t, .bool back, .bool begins] w fun e w' => e = .returned (.int .i64 (findP t back begins s)) ∧ w = w' := by
  have CH := Lib.hid (hasPrefix_any w s t)
  have CI := Lib.hid (index_any w s t hm hs)
  have CL := Lib.hid (lastIndex_any w s t hs)
  clear hm hs
  unfold findP
  generalize index s.data.toList t.data.toList = ix at *
  generalize lastIndex s.data.toList t.data.toList = lx at *
  generalize hasPrefix s.data.toList t.data.toList = hx at *
  cases begins <;> cases back <;> cases hx <;>
  · go_enter Try.func64, Try.ntmps64
    go_wp2_with (first
      | (go_at_call 32; refine (CH.out).mono ?_; rintro e w1 ⟨rfl, rfl⟩)
      | (go_at_call 63; refine (CI.out).mono ?_; rintro e w1 ⟨rfl, rfl⟩)
      | (go_at_call 80; refine (CL.out).mono ?_; rintro e w1 ⟨rfl, rfl⟩))
    go_ret
    exact ⟨rfl, rfl⟩
/-- Search of a history -/
theorem Search_any (w : World) (g : Nat) (v : Value) (S : HS) (h : LAt w g v S) (hm : MaxL w) (hs : ∀ x ∈ S.ls, x.1.size ≤ 16384) (i : Int) (t : ByteArray) (back begins : Bool) :
    Calls Try.prog 34 #[.pointer (some ⟨g, 0, none⟩), .int .i64 i, .string t, .bool back, .bool begins] w fun e w' => e = .returned (.tuple #[.int .i64 (srcV (findP t back begins) S.ls (srcFrom S.ls.length i back) back).1, .int .i64 (srcV (findP t back begins) S.ls (srcFrom S.ls.length i back) back).2.1, .bool (srcV (findP t back begins) S.ls (srcFrom S.ls.length i back) back).2.2]) ∧ Below w.heap.size w w' :=
  search_g _ w _ v S.ls S.base S.most i t back begins (Nat.le_trans h.len (by omega)) (fun W hb => kept_any W g v S (h.below hb)) h.seg (fun W hb z hz => (find_any W z.1 t back begins (hm.below hb) (hs z hz)).mono fun _ _ ⟨h1, h2⟩ => ⟨h1, h2 ▸ Below.refl _ _⟩)
end Go.Proofs.Ytojhppcnpjajaaa
