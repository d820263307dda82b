/-
  The walk of FsTree: no file is below a file, and each directory's list has just the first names of what is below it.
-/
import Derived.Test.YthpkfgjjaieikaaDoorFsInv
import Derived.Sort.Walk0
import Derived.Test.YthpkfgjjaieikaaDoorFsRef
namespace Go.Proofs.YthpkfgjjaieikaaDoor
open Go.RowKit Go.Shelf Go.Lib Go.Maps Go.Sort
attribute [local go_sem] Oper.semAt_some

/-- between two rounds: k paths have come -/
def AllI (w w4 : World) (nb base : Nat) (ps : List (List UInt8)) (k : Nat) (W : World) : Prop :=
  ∃ v, Box W nb v 30 ∧ W.ownsRow base 9 1 v (ps.take k).length ((ps.take k).map str) ∧ Below w4.heap.size w4 W

/-- up, and without a fault -/
def calm (s : St) : St := ⟨0, 0, 0, s.calls, false⟩
theorem clear_fault (s : St) : (setP (restartP s).2 0 0 0).2 = calm s := by
  unfold restartP
  cases hd : s.down with
  | true => rfl
  | false =>
    unfold setP calm
    simp [hd]
theorem calm_ok {s : St} (h : StOk s) : StOk (calm s) := by
  obtain ⟨_, _, _, _, _, _, h7, h8⟩ := h
  refine ⟨Int.le_refl 0, ?_, Int.le_refl 0, ?_, Int.le_refl 0, ?_, h7, h8⟩
  · show (0 : Int) ≤ 9223372036854775807; decide
  · show (0 : Int) ≤ 3; decide
  · show (0 : Int) ≤ 9223372036854775807; decide
theorem calm_start (s : St) : startP (calm s) true = (0, calm { s with calls := s.calls + 1 }) := rfl

theorem add_zero_addr (g i : Nat) : (⟨g, 0, none⟩ : Addr).add i = ⟨g, i, none⟩ := by
  rcases Nat.eq_zero_or_pos i with rfl | h
  · rfl
  · simp [Addr.add]; omega
/-- what stays while the tree is looked at -/
def TreeW (w : World) (b bm : Nat) (es : List Ent) (nb K base : Nat) (v : Value) (C : Int) (W : World) : Prop :=
  ∃ s, FsAt W (fun k => w.heap.size ≤ k) b bm es (calm s) ∧ StOk (calm s) ∧ s.calls ≤ C ∧ Box W nb v 30 ∧ W.ownsRow base 9 1 v (pathsOf es).length ((pathsOf es).map str) ∧ W.heap[K]? = some (.deferred (some [])) ∧ Below w.heap.size w W
theorem TreeW.next {w W W' : World} {b bm : Nat} {es : List Ent} {nb K base : Nat} {v : Value} {C C' : Int} {s' : St} (h : TreeW w b bm es nb K base v C W) (hF : FsAt W' (fun k => w.heap.size ≤ k) b bm es (calm s')) (ho : StOk (calm s')) (hc : s'.calls ≤ C') (ht : Touch (fun k => k = b) W W') (h1 : b < nb) (h2 : b < K) (h3 : b < base) : TreeW w b bm es nb K base v C' W' := by
  obtain ⟨s, hF0, _, _, hn, hr, hk, hB⟩ := h
  refine ⟨s', hF, ho, hc, hn.same (ht.block _ hn.lt (by omega)), row_kept hr fun j hj => ht.block j (hr.lt j hj).2 (by have := (hr.lt j hj).1; omega), (ht.block _ (Array.getElem?_eq_some_iff.1 hk).1 (by omega)).trans hk, hB.trans (ht.below hB.size fun k hk => by rw [hk]; exact hF0.own)⟩
theorem paths_lt {es : List Ent} (hi : Inv es) {i : Nat} {p q : List UInt8} (hp : (pathsOf es)[i]? = some p) (hq : (pathsOf es)[i - 1]? = some q) (h0 : 0 < i) : Op.bytesLess q p = true := by
  rw [bytesLess_eq, decide_eq_true_eq]
  obtain ⟨hpl, hpe⟩ := List.getElem?_eq_some_iff.1 hp
  obtain ⟨hql, hqe⟩ := List.getElem?_eq_some_iff.1 hq
  have hle := List.pairwise_iff_getElem.1 (pathsOf_sorted es) (i - 1) i hql hpl (by omega)
  have hnd : (pathsOf es).Nodup := (List.mergeSort_perm _ _).nodup_iff.2 hi.once
  have hne := List.pairwise_iff_getElem.1 hnd (i - 1) i hql hpl (by omega)
  rw [hpe, hqe] at hle hne
  by_cases h : q < p
  · exact h
  · exact absurd (List.le_antisymm hle (List.not_lt.1 h)) hne
theorem list_dir {es : List Ent} {s : St} {d : List UInt8} (hg : goodP d = true) (hi : isP es d = (false, true)) : listP es (calm s) d = (Lib.compact (namesOf d (pathsOf es)), 0, calm { s with calls := s.calls + 1 }) := by
  have h : startP (calm s) (d == [47] || goodP d) = (0, calm { s with calls := s.calls + 1 }) := by rw [hg, Bool.or_true]; exact calm_start s
  unfold listP
  rw [h, hi]
  rfl
/-- between two places of a path -/
def InI (w : World) (b bm : Nat) (es : List Ent) (nb K base : Nat) (v : Value) (C : Int) (n : Nat) (k : Value) (W : World) : Prop :=
  ∃ a : Nat, k = .int .i64 a ∧ 1 ≤ a ∧ a ≤ n ∧ TreeW w b bm es nb K base v (C + a) W
/-- between two names of a list -/
def CntI (l : List (List UInt8)) (n : List UInt8) (j f : Value) : Prop := ∃ i : Nat, j = .int .i64 i ∧ i ≤ l.length ∧ f = .int .i64 ((l.take i).count n : Nat)
def CntW (l : List (List UInt8)) (n : List UInt8) (W0 : World) (j f : Value) (W : World) : Prop := CntI l n j f ∧ W = W0
theorem CntI.step {l : List (List UInt8)} {n x : List UInt8} {i : Nat} (hx : l[i]? = some x) : (l.take (i + 1)).count n = (l.take i).count n + if x = n then 1 else 0 := by
  rw [List.take_add_one, hx, List.count_append]
  by_cases h : x = n
  · simp [h]
  · simp [h]
theorem list_head {W : World} {base : Nat} {v : Value} {l : List (List UInt8)} {nm : List UInt8} (h : W.ownsRow base 9 1 v l.length (l.map str)) (hc : l.count nm = 1) : ∃ g cap, v = .slice (some ⟨g, 0, none⟩) l.length cap := by
  rcases h.2 with ⟨_, h0⟩ | ⟨g, cap, cur, e, _⟩
  · rw [List.eq_nil_of_length_eq_zero h0] at hc
    cases hc
  · exact ⟨g, cap, e⟩
/-- between two files -/
def OutI (w : World) (b bm : Nat) (es : List Ent) (nb K base : Nat) (v : Value) (C : Int) (n : Nat) (k : Value) (W : World) : Prop :=
  ∃ i : Nat, k = .int .i64 i ∧ i ≤ n ∧ TreeW w b bm es nb K base v (C + i * 2000) W

set_option maxRecDepth 100000 in
set_option maxHeartbeats 4000000 in
theorem tree_walk (w : World) (vs : Value) (os : List OpD) (hs : ScriptAt w vs os) :
    Calls Tryd.prog 4 #[vs] w (BegunPost w) := by
  refine (callsIn_wide (n := 8)).1 ?_
  refine callsIn_of_wp_marks Tryd.func4 rfl trivial ?_ rfl
  simp only [Tryd.ntmps4, List.size_toArray, List.length_cons, List.length_nil, Nat.reduceAdd, Nat.reduceSub, Array.replicate_succ, Array.replicate_zero, List.push_toArray, List.append_toArray, List.nil_append, List.cons_append]
  have hdep : Fence.wide.depth.isSome = false := rfl
  have hf0 : Fence.wide.fn 8 := trivial
  have hf1 : Fence.wide.fn 11 := trivial
  have hf2 : Fence.wide.fn 16 := trivial
  have hf3 : Fence.wide.fn 15 := trivial
  have hf8 : Fence.wide.fn 13 := trivial
  have hf9 : Fence.wide.fn 12 := trivial
  have hf13 : Fence.wide.fn 14 := trivial
  have hf14 : Fence.wide.fn 17 := trivial
  have CR := Lib.hid (run_any w Inv inv_nil (fun _ _ _ _ _ _ h k => inv_one h k) vs os hs)
  have HLEN := Lib.hid hs.len
  obtain ⟨A0, cap0, rfl, _⟩ := id hs.cells
  clear hs
  gi_wp2_with (first
    | (gi_at_call 11; refine (callsIn_wide.2 CR.out).mono ?_; rintro e w1 ⟨b, bm, es, s, rfl, hF, ho, hc, hl, hi, hb⟩; have HF1 := Lib.hid hF; have HO1 := Lib.hid ho; have HC1 := Lib.hid hc; have HL := Lib.hid hl; have HINV := Lib.hid hi; have HB1 := Lib.hid hb; clear hF ho hc hl hi hb)
    | (gi_at_call 8; refine (callsIn_wide.2 (begun_any _)).mono ?_; rintro e w2 ⟨rfl, hb⟩; have HF2 := Lib.hid (HF1.out.below hb); have HB2 := Lib.hid (HB1.out.trans (hb.mono HB1.out.size)); clear hb)
    | (gi_at_call 12; refine (callsIn_wide.2 (restart_any _ _ b bm es s HF2.out)).mono ?_; rintro e w3 ⟨rfl, hF, hT⟩; have HF3 := Lib.hid hF; have HB3 := Lib.hid (HB2.out.trans (hT.below HB2.out.size fun _ hk => hk)); clear hF hT)
    | (gi_at_call 13; refine (callsIn_wide.2 (setFault_any _ _ b bm es _ 0 0 0 HF3.out)).mono ?_; rintro e w4 ⟨rfl, hF, hT⟩; rw [clear_fault] at hF; have HF4 := Lib.hid hF; have HB4 := Lib.hid (HB3.out.trans (hT.below HB3.out.size fun _ hk => hk)); clear hF hT)
    | (gi_at_call 14; refine (callsIn_wide.2 (paths_any _ _ b bm es _ (HF4.out.alloc _) (Nat.le_trans HL.out (by omega)))).mono ?_; rintro e w5 ⟨v5, rfl, hb5, hr5, hB5⟩; have HB5 := Lib.hid hb5; have HR5 := Lib.hid hr5; have HBL5 := Lib.hid hB5; clear hb5 hr5 hB5))
  have hsz : (w4.alloc (.cells #[.slice none 0 0] 30)).heap.size = w4.heap.size + 1 := by simp
  have hnb : Box w5 w4.heap.size (.slice none 0 0) 30 := box_after HBL5.out
  have hle5 : w4.heap.size + 1 < w5.heap.size := by
    have h1 := HB5.out.lt
    rw [hsz] at h1
    exact h1
  have hrow5 := HR5.out
  have hv5 : ∀ j, v5.ownBlock = some j → w4.heap.size + 2 ≤ j ∧ j < w5.heap.size := fun j hj => by
    have := hrow5.lt j hj
    rw [hsz] at this
    omega
  have HV5 := Lib.hid hv5
  rw [hsz] at hrow5
  have hbox5 := HB5.out
  rw [hsz] at hbox5
  have hb45 : Below w4.heap.size w4 w5 := ((Below.refl _ w4).alloc (Nat.le_refl _) _).trans (HBL5.out.mono (by simp))
  have HNB := Lib.hid hnb
  have HB45 := Lib.hid hb45
  have hit := paths_iter w5 (w4.heap.size + 1) _ v5 (pathsOf es) (by rw [pathsOf_length]; exact Nat.le_trans HL.out (by omega)) hbox5 (by rw [pathsOf_length]; exact hrow5)
  clear hnb hsz hrow5 hbox5 hv5 hb45
  refine range_law (gf := 35) (xs := (pathsOf es).map str) (T := PathsT (w4.heap.size + 1) v5) rfl (enters_of Tryd.func35 (by kernel_rfl) rfl) hit
    (fun k hk => by rcases hk with rfl | hk; exact hle5; exact (HV5.out k hk).2)
    (fun k W => AllI w w4 w4.heap.size (w5.heap.size + 2) (pathsOf es) k W) (fun _ _ => False) ?hI (fun _ _ _ h _ => h) ?h0
    (fun x => { tmps := #[.slice A0 os.length cap0, undef, .bool false, .pointer (some ⟨b, 0, none⟩), .pointer (some ⟨w4.heap.size, 0, none⟩), x, undef, undef, undef, undef, undef, undef, undef, undef, undef, undef, undef, undef, undef, .slice A0 os.length cap0, .pointer (some ⟨b, 0, none⟩), .bool true, .bool false, .bool false, .pointer (some ⟨b, 0, none⟩), .bool false, .bool false, .pointer (some ⟨b, 0, none⟩), .int .i64 (restartP s).1, .pointer (some ⟨b, 0, none⟩), .int .i64 (setP (restartP s).2 0 0 0).1, .pointer (some ⟨b, 0, none⟩), .func (.func 35) #[] #[.pointer (some ⟨w4.heap.size + 1, 0, none⟩)], x, undef, undef, undef, undef, undef, undef, undef, undef, undef, undef, undef, undef, undef, undef, undef, undef, undef, undef, undef, undef, undef, undef, undef, undef, undef, undef, undef, undef, undef, undef, undef, undef, undef, undef, undef, undef, undef, undef, undef, undef, undef, undef, undef, undef, undef, undef, undef, undef, undef, undef, undef, undef, undef, undef, undef, undef, undef, undef, undef, undef, undef, undef, undef, undef, undef, undef, undef, undef, undef, undef, undef, undef, undef, undef, undef, undef, undef, undef, undef, undef, undef, undef, undef, undef, undef, undef], defers := [] }) ?assign ?body ?done ?stop
  case hI =>
    rintro k W W' ⟨v, g1, g2, g4⟩ ht
    have hT : ∀ j, (PathsT (w4.heap.size + 1) v5 j ∨ j = w5.heap.size + 1) → w4.heap.size + 1 ≤ j ∧ j < w5.heap.size + 2 := fun j hj => by
      rcases hj with (rfl | hj) | rfl
      · omega
      · have := HV5.out j hj; omega
      · omega
    refine ⟨v, g1.same (ht.block _ g1.lt fun h => by have := hT _ h; omega), ?_, g4.trans (ht.below g4.size fun j hj => by have := hT _ hj; omega)⟩
    exact row_kept g2 fun k hk => ht.block k (g2.lt k hk).2 fun h => by have := hT _ h; have := (g2.lt k hk).1; omega
  case h0 => exact ⟨_, HNB.out, World.ownsRow_nil _ _ _ _, HB45.out⟩
  case assign =>
    intro l x W K hK
    gi_wp2_with fail
    exact hK
  case stop => exact fun _ _ h => h.elim
  case body =>
    rintro l k x W hx ⟨v, g1, g2, g4⟩ hlt
    obtain ⟨p, hp, rfl⟩ : ∃ p, (pathsOf es)[k]? = some p ∧ str p = x := by simpa using hx
    have hmore : (pathsOf es).take (k + 1) = (pathsOf es).take k ++ [p] := by rw [List.take_add_one, hp]; rfl
    have hzl : ((pathsOf es).take k).length ≤ 1000000 := by
      rw [List.length_take, pathsOf_length]
      have := HL.out
      omega
    have HZL := Lib.hid hzl
    have hn5 := g1.cell
    have G1 := Lib.hid g1
    have G2 := Lib.hid g2
    have G4 := Lib.hid g4
    have HM := Lib.hid hmore
    clear hx g1 g2 g4 hp hzl hit hmore
    generalize (pathsOf es).take k = zs at *
    gi_wp2_with (gi_at_builtin; refine wpListIn_append_str rfl _ _ rfl (w5.heap.size + 2) v zs p W.heap.size 1 rfl rfl (cell_of_row _ _ 0 _ _ _ (World.alloc_heap_new W _)) (row_kept G2.out fun k hk => Below.heap_alloc _ _ k (G2.out.lt k hk).2) (by simp; omega) HZL.out ?_; intro g6 cap6 w6 hr6 hg6 hl6; have hn6 : Box w6 w4.heap.size v 30 := G1.out.same ((hg6.block _ (by have := G1.out.lt; simp; omega) (row_ne_low G2.out (by omega))).trans (Below.heap_alloc _ _ _ G1.out.lt)); have hn6c := hn6.cell; have hn6f := hn6.frozen; have HN6 := Lib.hid hn6; simp only [List.length_append, List.length_cons, List.length_nil, Nat.zero_add] at hr6; have HR6 := Lib.hid hr6; have HG6 := Lib.hid hg6; have HL6 := Lib.hid hl6; clear hn6 hr6 hg6 hl6)
    have hT : ∀ j, (PathsT (w4.heap.size + 1) v5 j ∨ j = w5.heap.size ∨ j = w5.heap.size + 1) → w4.heap.size + 1 ≤ j ∧ j < w5.heap.size + 2 := fun j hj => by
      rcases hj with (rfl | hj) | rfl | rfl
      · omega
      · have := HV5.out j hj; omega
      · omega
      · omega
    have hg6l : w5.heap.size + 2 ≤ g6 ∧ g6 < w6.heap.size := HR6.out.lt g6 rfl
    have hU : Touch (fun j => j = w4.heap.size ∨ w5.heap.size + 2 ≤ j) W (w6.setCell ⟨w4.heap.size, 0, none⟩ (.slice (some ⟨g6, 0, none⟩) (zs.length + 1) cap6)) :=
      ((Touch.alloc _ _ _).trans (Touch.of_grown HG6.out fun j hj => .inr (G2.out.lt j hj).1)).trans (Touch.setCell _ _ _ (.inl rfl))
    refine ⟨Same.of_touch hU fun j hj => ⟨by have := hT j hj; omega, fun h => by have := hT j hj; omega⟩, _, HN6.out.set _, ?_, ?_⟩
    · rw [HM.out]
      simp only [List.length_append, List.length_cons, List.length_nil, Nat.zero_add]
      exact row_kept HR6.out fun j hj => Below.heap_setCell _ _ _ j (by cases hj; show g6 ≠ w4.heap.size; omega)
    · exact G4.out.trans (hU.below G4.out.size fun j hj => by omega)
  case done =>
    rintro W ⟨v, g1, g2, g4⟩ hK
    have htk : (pathsOf es).take ((pathsOf es).map str).length = pathsOf es := by rw [List.length_map]; exact List.take_of_length_le (Nat.le_refl _)
    rw [htk] at g2
    have hblt : b < w4.heap.size := HF4.out.lt
    have hW : TreeW w b bm es w4.heap.size w5.heap.size (w5.heap.size + 2) v s.calls W :=
      ⟨s, HF4.out.below g4, calm_ok HO1.out, Int.le_refl _, g1, g2, hK, HB4.out.trans (g4.mono HB4.out.size)⟩
    have hCb : s.calls ≤ 140737488351232 := by have h1 := HC1.out; have h2 := HLEN.out; omega
    have cn := g1.cell
    have hpl : (pathsOf es).length ≤ 4096 := by rw [pathsOf_length]; exact HL.out
    obtain ⟨A7, cap7, rfl⟩ : ∃ A cap, v = .slice A (pathsOf es).length cap := by
      rcases g2.2 with ⟨e, h0⟩ | ⟨g, cap, cur, e, _⟩
      · exact ⟨none, 0, by rw [e, h0]⟩
      · exact ⟨_, _, e⟩
    have HTW := Lib.hid hW
    have HCB := Lib.hid hCb
    have HPL := Lib.hid hpl
    have HBLT := Lib.hid hblt
    clear g1 g2 g4 hK htk hit hW hCb hblt
    gi_wp2_with fail
    have HI7 := Lib.hid (show OutI w b bm es w4.heap.size w5.heap.size (w5.heap.size + 2) (.slice A7 (pathsOf es).length cap7) s.calls (pathsOf es).length (.int .i64 0) W from ⟨0, rfl, Nat.zero_le _, by simpa using HTW.out⟩)
    gi_loopw [40] (fun k wr => OutI w b bm es w4.heap.size w5.heap.size (w5.heap.size + 2) (.slice A7 (pathsOf es).length cap7) s.calls (pathsOf es).length k wr) (fun k _ => (pathsOf es).length - (intOf k).toNat)
    case atStart => exact HI7.out
    case round =>
      obtain ⟨i, rfl, hi, hW⟩ := hrel
      have HW := Lib.hid hW
      clear hW
      by_cases hlt : i < (pathsOf es).length
      · obtain ⟨p, hp⟩ : ∃ p, (pathsOf es)[i]? = some p := ⟨_, List.getElem?_eq_getElem hlt⟩
        obtain ⟨s8, hF8, ho8, hc8, hn8, hr8, hk8, hB8⟩ := id HW.out
        obtain ⟨g7, rfl⟩ : ∃ g, A7 = some ⟨g, 0, none⟩ := by
          rcases hr8.2 with ⟨e, h0⟩ | ⟨g, cap, cur, e, _⟩
          · omega
          · injection e with e _ _; exact ⟨g, e⟩
        have hcell : wr.cell? ⟨g7, i, none⟩ = some (str p) := by
          have := hr8.cells (g := g7) rfl i (str p) (by simp [hp])
          rwa [add_zero_addr] at this
        have hcn := hn8.cell
        clear hF8 ho8 hc8 hn8 hk8 hB8
        have hx : ∃ x ∈ es, x.path = p := by
          have := List.mem_of_getElem? hp
          unfold pathsOf at this
          rw [List.mem_mergeSort, List.mem_map] at this
          exact this
        obtain ⟨x, hx, rfl⟩ := hx
        have hpg := HINV.out.good x hx
        have hp1024 := goodP_len hpg
        have hp1 : 1 ≤ x.path.length := by
          cases hxp : x.path with
          | nil => rw [hxp] at hpg; cases hpg
          | cons => simp
        have HX := Lib.hid hx
        have hcase : ((i : Int) ≤ 0) ∨ (0 < i ∧ ∃ q, wr.cell? ⟨g7, i - 1, none⟩ = some (str q) ∧ Op.bytesLess q x.path = true) := by
          by_cases h0 : i = 0
          · exact .inl (by omega)
          · obtain ⟨q, hq⟩ : ∃ q, (pathsOf es)[i - 1]? = some q := ⟨_, List.getElem?_eq_getElem (by omega)⟩
            refine .inr ⟨by omega, q, ?_, paths_lt HINV.out hp hq (by omega)⟩
            have := hr8.cells (g := g7) rfl (i - 1) (str q) (by simp [hq])
            rwa [add_zero_addr] at this
        clear hr8 hp hx hpg
        generalize hpp : x.path = p at *
        have HPP := Lib.hid hpp
        clear hpp
        rcases hcase with hz | ⟨hz, q, hcell2, hless⟩
        all_goals
          gi_wp2_with fail
          have HI9 := Lib.hid (show InI w b bm es w4.heap.size w5.heap.size (w5.heap.size + 2) (.slice (some ⟨g7, 0, none⟩) (pathsOf es).length cap7) (s.calls + i * 2000) p.length (.int .i64 1) wr from ⟨1, rfl, Nat.le_refl _, hp1, by obtain ⟨s8, h1, h2, h3, h4⟩ := HW.out; exact ⟨s8, h1, h2, by omega, h4⟩⟩)
          clear hcell hcn
          gi_loopw [8] (fun k wr => InI w b bm es w4.heap.size w5.heap.size (w5.heap.size + 2) (.slice (some ⟨g7, 0, none⟩) (pathsOf es).length cap7) (s.calls + i * 2000) p.length k wr) (fun k _ => p.length - (intOf k).toNat)
          case atStart => exact HI9.out
          case round =>
            obtain ⟨a, rfl, ha1, han, hTW⟩ := hrel
            have HT := Lib.hid hTW
            clear hTW
            by_cases hal : a < p.length
            · obtain ⟨c, hc⟩ : ∃ c, p[a]? = some c := ⟨_, List.getElem?_eq_getElem hal⟩
              have ec : ∀ h, ((⟨p.toArray⟩ : ByteArray)[a]'h) = c := fun h => at_ba hc h
              by_cases h47 : c = 47
              · subst h47
                have htd := tree_dir HINV.out HX.out ha1 (by rw [HPP.out]; exact hc)
                rw [HPP.out] at htd
                obtain ⟨hgd, hid, hcnt⟩ := htd
                obtain ⟨s9, hF9, ho9, hc9, _⟩ := id HT.out
                have hcl9 : s9.calls ≤ 4000000000000000000 := by have h1 := HCB.out; have h2 := HPL.out; omega
                have CI := is_any wr _ b bm es (calm s9) (p.take a) hF9
                rw [hid, ← take_v] at CI
                have CI := Lib.hid CI
                have CL := fun (W : World) (hW : FsAt W (fun k => w.heap.size ≤ k) b bm es (calm s9)) => list_any W _ b bm es (calm s9) (p.take a) hW ho9 hcl9 (Nat.le_trans HL.out (by omega))
                rw [list_dir hgd hid, ← take_v] at CL
                have CL := Lib.hid CL
                have CC := fun W : World => cut1_any (p.drop (a + 1)) W (by rw [List.length_drop]; omega)
                have hnm := headP_cutP (p.drop (a + 1))
                have hq1 : (cutP (p.drop (a + 1))).1.length ≤ 1024 := Nat.le_trans (cutP_le _) (by rw [List.length_drop]; omega)
                rw [← drop_v] at CC
                have HF9 := Lib.hid hF9
                have HO9 := Lib.hid ho9
                have HC9 := Lib.hid hc9
                have HCL9 := Lib.hid hcl9
                generalize headP (p.drop (a + 1)) = nm at hcnt hnm
                have hll : (Lib.compact (namesOf (p.take a) (pathsOf es))).length ≤ 4096 := Nat.le_trans (compact_le _) (Nat.le_trans (namesOf_le _ _) HPL.out)
                generalize Lib.compact (namesOf (p.take a) (pathsOf es)) = l at hcnt CL hll
                have HLL := Lib.hid hll
                generalize cutP (p.drop (a + 1)) = qq at CC hnm hq1
                obtain ⟨q1, q2, q3⟩ := qq
                have HCNT := Lib.hid hcnt
                have HNM := Lib.hid hnm
                have HQ1 := Lib.hid hq1
                have CC := Lib.hid CC
                clear hgd hid hcnt hF9 ho9 hc9 hcl9 hnm hq1 hc hll
                cases q3 with
                | false =>
                  have hnm : nm = q1 := by rw [HNM.out]; rfl
                  subst hnm
                  gi_wp2_with (first
                    | (gi_at_call 15; refine (callsIn_wide.2 CI.out).mono ?_; rintro e W1 ⟨rfl, hb1⟩; have HFA := Lib.hid (HF9.out.below hb1); have HTA := Lib.hid (Touch.of_below (T := fun k => k = b) hb1); clear hb1)
                    | (gi_at_call 16; refine (callsIn_wide.2 (CL.out _ HFA.out)).mono ?_; rintro e W2 ⟨v12, rfl, hr12, hF12, hT12⟩; obtain ⟨g12, cap12, rfl⟩ := list_head hr12 HCNT.out; have HRB := Lib.hid hr12; have HFB := Lib.hid hF12; have HTB := Lib.hid (HTA.out.trans hT12); clear hr12 hF12 hT12)
                    | (gi_at_call 17; refine (callsIn_wide.2 (CC.out _)).mono ?_; rintro e W3 ⟨rfl, hb3⟩; have HRC := Lib.hid (row_kept HRB.out fun k hk => hb3.block k (HRB.out.lt k hk).2); have HFC := Lib.hid (HFB.out.below hb3); have HTC := Lib.hid (HTB.out.trans (Touch.of_below hb3)); clear hb3))
                  have HI3 := Lib.hid (show CntW l nm W3 (.int .i64 0) (.int .i64 0) W3 from ⟨⟨0, rfl, Nat.zero_le _, by simp⟩, rfl⟩)
                  gi_loopw [96, 16] (fun j f wr => CntW l nm W3 j f wr) (fun j _ _ => l.length - (intOf j).toNat)
                  case atStart => exact HI3.out
                  case round =>
                    obtain ⟨⟨i2, rfl, hi2, rfl⟩, rfl⟩ := hrel
                    have hll := HLL.out
                    have hct : (l.take i2).count nm ≤ 4096 := Nat.le_trans List.count_le_length (by rw [List.length_take]; have := HLL.out; omega)
                    by_cases hl2 : i2 < l.length
                    · obtain ⟨y, hy⟩ : ∃ y, l[i2]? = some y := ⟨_, List.getElem?_eq_getElem hl2⟩
                      have hcy : wr.cell? ⟨g12, i2, none⟩ = some (str y) := by
                        have := HRC.out.cells (g := g12) rfl i2 (str y) (by simp [hy])
                        rwa [add_zero_addr] at this
                      have hst := CntI.step (n := nm) hy
                      by_cases e : y = nm
                      · subst e
                        rw [if_pos rfl] at hst
                        have HST := Lib.hid hst
                        clear hst hy
                        gi_wp2_with fail
                        exact ⟨⟨⟨i2 + 1, by go_num, by omega, by rw [HST.out]; go_num⟩, rfl⟩, by simp [intOf] <;> omega⟩
                      · rw [if_neg e] at hst
                        have HST := Lib.hid hst
                        have hey : (y == nm) = false := by simpa using e
                        clear hst hy e
                        gi_wp2_with fail
                        exact ⟨⟨⟨i2 + 1, by go_num, by omega, by rw [HST.out]; rfl⟩, rfl⟩, by simp [intOf] <;> omega⟩
                    · obtain rfl : i2 = l.length := by omega
                      have h1 : (l.take l.length).count nm = 1 := by rw [List.take_length]; exact HCNT.out
                      rw [h1]
                      clear h1 hct hi2 hl2 HI3
                      gi_wp2_with fail
                      have hb := HBLT.out
                      have h5 := HB45.out.size
                      exact ⟨⟨a + 1, by go_num, by omega, by omega, HT.out.next HFC.out (call_ok (s := calm s9) HO9.out HCL9.out) (by have := HC9.out; show s9.calls + 1 ≤ _; omega) HTC.out hb (by omega) (by omega)⟩, by simp [intOf] <;> omega⟩
                | true =>
                  have hnm : nm = q1 ++ [47] := by rw [HNM.out]; rfl
                  have hadd : ∀ W : World, (Op.stringOp .add ⟨q1.toArray⟩ ⟨#[47]⟩).run Tryd.prog W = .ok (str nm) W := fun W => by
                    rw [run_string_add_sum W _ _ (by have := HQ1.out; simp only at this; simp [ByteArray.size]; omega), hnm, ← app_v]
                  clear hnm
                  gi_wp2_with (first
                    | (gi_at_call 15; refine (callsIn_wide.2 CI.out).mono ?_; rintro e W1 ⟨rfl, hb1⟩; have HFA := Lib.hid (HF9.out.below hb1); have HTA := Lib.hid (Touch.of_below (T := fun k => k = b) hb1); clear hb1)
                    | (gi_at_call 16; refine (callsIn_wide.2 (CL.out _ HFA.out)).mono ?_; rintro e W2 ⟨v12, rfl, hr12, hF12, hT12⟩; obtain ⟨g12, cap12, rfl⟩ := list_head hr12 HCNT.out; have HRB := Lib.hid hr12; have HFB := Lib.hid hF12; have HTB := Lib.hid (HTA.out.trans hT12); clear hr12 hF12 hT12)
                    | (gi_at_call 17; refine (callsIn_wide.2 (CC.out _)).mono ?_; rintro e W3 ⟨rfl, hb3⟩; have HRC := Lib.hid (row_kept HRB.out fun k hk => hb3.block k (HRB.out.lt k hk).2); have HFC := Lib.hid (HFB.out.below hb3); have HTC := Lib.hid (HTB.out.trans (Touch.of_below hb3)); clear hb3))
                  have HI3 := Lib.hid (show CntW l nm W3 (.int .i64 0) (.int .i64 0) W3 from ⟨⟨0, rfl, Nat.zero_le _, by simp⟩, rfl⟩)
                  gi_loopw [96, 16] (fun j f wr => CntW l nm W3 j f wr) (fun j _ _ => l.length - (intOf j).toNat)
                  case atStart => exact HI3.out
                  case round =>
                    obtain ⟨⟨i2, rfl, hi2, rfl⟩, rfl⟩ := hrel
                    have hll := HLL.out
                    have hct : (l.take i2).count nm ≤ 4096 := Nat.le_trans List.count_le_length (by rw [List.length_take]; have := HLL.out; omega)
                    by_cases hl2 : i2 < l.length
                    · obtain ⟨y, hy⟩ : ∃ y, l[i2]? = some y := ⟨_, List.getElem?_eq_getElem hl2⟩
                      have hcy : wr.cell? ⟨g12, i2, none⟩ = some (str y) := by
                        have := HRC.out.cells (g := g12) rfl i2 (str y) (by simp [hy])
                        rwa [add_zero_addr] at this
                      have hst := CntI.step (n := nm) hy
                      by_cases e : y = nm
                      · subst e
                        rw [if_pos rfl] at hst
                        have HST := Lib.hid hst
                        clear hst hy
                        gi_wp2_with fail
                        exact ⟨⟨⟨i2 + 1, by go_num, by omega, by rw [HST.out]; go_num⟩, rfl⟩, by simp [intOf] <;> omega⟩
                      · rw [if_neg e] at hst
                        have HST := Lib.hid hst
                        have hey : (y == nm) = false := by simpa using e
                        clear hst hy e
                        gi_wp2_with fail
                        exact ⟨⟨⟨i2 + 1, by go_num, by omega, by rw [HST.out]; rfl⟩, rfl⟩, by simp [intOf] <;> omega⟩
                    · obtain rfl : i2 = l.length := by omega
                      have h1 : (l.take l.length).count nm = 1 := by rw [List.take_length]; exact HCNT.out
                      rw [h1]
                      clear h1 hct hi2 hl2 HI3
                      gi_wp2_with fail
                      have hb := HBLT.out
                      have h5 := HB45.out.size
                      exact ⟨⟨a + 1, by go_num, by omega, by omega, HT.out.next HFC.out (call_ok (s := calm s9) HO9.out HCL9.out) (by have := HC9.out; show s9.calls + 1 ≤ _; omega) HTC.out hb (by omega) (by omega)⟩, by simp [intOf] <;> omega⟩
              · have hq47 : ((c.toNat : Int) != 47) = true := by
                  have : c.toNat ≠ 47 := fun e => h47 (UInt8.toNat_inj.1 e)
                  simp; omega
                clear hc h47
                gi_wp2_with fail
                refine ⟨⟨a + 1, by go_num, by omega, by omega, ?_⟩, by simp [intOf] <;> omega⟩
                obtain ⟨s9, h1, h2, h3, h4⟩ := HT.out
                exact ⟨s9, h1, h2, by omega, h4⟩
            · obtain rfl : a = p.length := by omega
              gi_wp2_with fail
              refine ⟨⟨i + 1, by go_num, by omega, ?_⟩, by simp [intOf] <;> omega⟩
              obtain ⟨s9, h1, h2, h3, h4⟩ := HT.out
              exact ⟨s9, h1, h2, by omega, h4⟩
      · obtain rfl : i = (pathsOf es).length := by omega
        obtain ⟨s9, hF9, ho9, hc9, hn9, hr9, hk9, hB9⟩ := HW.out
        have HK9 := Lib.hid hk9
        have HB9 := Lib.hid hB9
        have HKN := Lib.hid (show w.heap.size ≤ w5.heap.size from Nat.le_trans HB4.out.size HB45.out.size)
        clear hF9 ho9 hc9 hn9 hr9 hk9 hB9
        gi_wp2_with fail
        refine ⟨by simp, .inl ⟨_, _, rfl, run_takeDeferred HK9.out, ?_⟩⟩
        refine ⟨.bool true, by simp [results, Tryd.results4, go_sem], rfl, HB9.out.trans ((Touch.putObj (T := fun j => j = w5.heap.size) _ _ _ rfl).below HB9.out.size fun j hj => by rw [hj]; exact HKN.out)⟩

end Go.Proofs.YthpkfgjjaieikaaDoor
