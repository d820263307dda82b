/-
  What slices.Clone, clone, indexOf of package tinfo return.
  What indexOf of package tinfo returns.
  What findExt, find and Get of package tinfo return, for every name.
  What put of package tinfo returns and changes, for every name.
-/
import Derived.Test.YtcfgppjhgobboaaGreatDoorTmCheck
namespace Go.Proofs.YtcfgppjhgobboaaGreatDoor
section
open Go.RowKit Go.Shelf Go.Lib Go.Maps
attribute [local go_sem] Oper.semAt_some

/-- an append of what is read somewhere, at the operation -/
theorem wpList_append_src {P : Program} {ops : Array Oper} {rest : List Oper} {o : Oper} {a : Act} {w : World} {Q : Exit → Act → World → Prop} (hgd : o.guard = none) (s x : Operand) (t : TypeId)
    (ho : o.op = .call { callee := .builtin .append, args := #[s, x], argTypes := #[t, t] }) (base : Nat) (e : TypeId) (i : TypeInfo) (z : Value) (size bytes : Nat) (ht : P.underlying t = some (.slice e)) (hi : P.info? e = some i) (hz : i.zero = some z)
    (hsize : i.size = size) (hby : i.bytes = bytes) (hzs : z.cells.size = size) (hsz : 0 < size)
    (v : Value) (n : Nat) (xs : List Value) (hs : a.eval s = v) (hown : w.ownsRow base e size v n xs) {A : Option Addr} {c m : Nat} {news : List Value} (hx : a.eval x = .slice A m c) (hsrc : Src w size A c m news) (h1 : ∀ u ∈ news, u.oneCell' = true)
    (h63 : n + m ≤ maxLen) (hbytes : (n + m) * bytes ≤ 140737488355328) (hbase : base ≤ w.heap.size)
    (h : ∀ v' w', w'.ownsRow base e size v' (n + m) (xs ++ news) → w.grownBy w' v.ownBlock → (v'.ownBlock = v.ownBlock ∨ v'.ownBlock = some w.heap.size) → wpList P ops Q rest (a.put o.dst v') w') : wpList P ops Q (o :: rest) a w := by
  refine wpList_plain hgd fun K hK => ?_
  obtain ⟨v', w', hrun, r1, r2, r3⟩ := run_append_src w base t o.type e i z size bytes ht hi hz hsize hby hzs hsz v n xs hown hsrc h1 h63 hbytes hbase
  unfold Oper.wp
  simp [execOp, ho, resolve, invoke, builtin, hs, hx, hrun, Result.andThen]
  exact hK _ _ (h v' w' r1 r2 r3)

theorem info_ext : (Tryz.prog.info? 48).map (fun i => (i.zero, i.size, i.bytes)) = some (some (.agg #[.int .i64 0, .string ⟨#[]⟩, .int .i64 0, .int .i64 0, .string ⟨#[]⟩]), 5, 56) := by kernel_rfl

set_option maxRecDepth 100000 in
theorem cloneCaps_any (w : World) (v : Value) (l : List CapD) (h : CapsV w v l) : Calls Tryz.prog 17 #[v] w fun e w' => ∃ u, e = .returned u ∧ CapRow w' u l ∧ Below w.heap.size w w' ∧ (∀ b, u.ownBlock = some b → w.heap.size ≤ b) := by
  obtain ⟨A, cap, rfl, hcap, hsm, hsrc⟩ := h
  have q22 : ∀ (w : World) (a : Option Addr) (n c n' c' : Nat), (binOp .eql 23 (.slice a n c) (.slice none n' c')).run Tryz.prog w = .ok (.bool a.isNone) w := fun w a n c n' c' => Lib.run_eql_slice_nil w _ _ a n c n' c' Tryz.underlying23
  cases A with
  | none =>
    obtain ⟨h0, rfl⟩ := hsrc.nil rfl
    have hl : l = [] := List.eq_nil_of_length_eq_zero h0
    subst hl
    clear hsrc hcap hsm h0
    go_enter Tryz.func17, Tryz.ntmps17
    go_wp2
    go_ret
    exact ⟨_, rfl, World.ownsRow_nil _ _ _ _, Below.refl _ _, fun b hb => by cases hb⟩
  | some a =>
    obtain ⟨i, hi, hz, hs, hby⟩ := info_parts info_cap
    have HS := Lib.hid hsrc
    clear hsrc
    go_enter Tryz.func17, Tryz.ntmps17
    go_wp2_with (at_builtin; refine wpList_append_src rfl _ _ 23 rfl w.heap.size 37 i _ 3 32 Tryz.underlying23 hi hz hs hby rfl (by decide) (.slice (some ⟨w.heap.size, 0, none⟩) 0 0) 0 [] rfl (World.ownsRow_made w #[] 0 (Nat.le_refl _) (Nat.zero_le _) rfl) rfl (HS.out.below ((Below.refl _ w).alloc (Nat.le_refl _) _)) (capVals_one l) (by unfold maxLen; omega) (by omega) (by simp) ?_; intro v' w' hr' hg' hb'; have H1 := Lib.hid hr'; have H2 := Lib.hid hg'; have H3 := Lib.hid hb'; clear hr' hg' hb')
    go_ret
    refine ⟨v', rfl, ?_, ((Below.refl _ w).alloc (Nat.le_refl _) _).grown H2.out (by simp) (by intro k hk; simp [Value.ownBlock] at hk; omega), fun b hb => ?_⟩
    · have := own_zero H1.out
      rw [Nat.zero_add, List.nil_append] at this
      exact this
    · rcases H3.out with h | h
      · rw [h] at hb; simp [Value.ownBlock] at hb; omega
      · rw [h] at hb; injection hb with hb; simp at hb; omega
set_option maxRecDepth 100000 in
theorem cloneExts_any (w : World) (v : Value) (l : List ExtD) (h : ExtsV w v l) : Calls Tryz.prog 18 #[v] w fun e w' => ∃ u, e = .returned u ∧ ExtRow w' u l ∧ Below w.heap.size w w' ∧ (∀ b, u.ownBlock = some b → w.heap.size ≤ b) := by
  obtain ⟨A, cap, rfl, hcap, hsm, hsrc⟩ := h
  have q22 : ∀ (w : World) (a : Option Addr) (n c n' c' : Nat), (binOp .eql 24 (.slice a n c) (.slice none n' c')).run Tryz.prog w = .ok (.bool a.isNone) w := fun w a n c n' c' => Lib.run_eql_slice_nil w _ _ a n c n' c' Tryz.underlying24
  cases A with
  | none =>
    obtain ⟨h0, rfl⟩ := hsrc.nil rfl
    have hl : l = [] := List.eq_nil_of_length_eq_zero h0
    subst hl
    clear hsrc hcap hsm h0
    go_enter Tryz.func18, Tryz.ntmps18
    go_wp2
    go_ret
    exact ⟨_, rfl, World.ownsRow_nil _ _ _ _, Below.refl _ _, fun b hb => by cases hb⟩
  | some a =>
    obtain ⟨i, hi, hz, hs, hby⟩ := info_parts info_ext
    have HS := Lib.hid hsrc
    clear hsrc
    go_enter Tryz.func18, Tryz.ntmps18
    go_wp2_with (at_builtin; refine wpList_append_src rfl _ _ 24 rfl w.heap.size 48 i _ 5 56 Tryz.underlying24 hi hz hs hby rfl (by decide) (.slice (some ⟨w.heap.size, 0, none⟩) 0 0) 0 [] rfl (World.ownsRow_made w #[] 0 (Nat.le_refl _) (Nat.zero_le _) rfl) rfl (HS.out.below ((Below.refl _ w).alloc (Nat.le_refl _) _)) (extVals_one l) (by unfold maxLen; omega) (by omega) (by simp) ?_; intro v' w' hr' hg' hb'; have H1 := Lib.hid hr'; have H2 := Lib.hid hg'; have H3 := Lib.hid hb'; clear hr' hg' hb')
    go_ret
    refine ⟨v', rfl, ?_, ((Below.refl _ w).alloc (Nat.le_refl _) _).grown H2.out (by simp) (by intro k hk; simp [Value.ownBlock] at hk; omega), fun b hb => ?_⟩
    · have := own_zero H1.out
      rw [Nat.zero_add, List.nil_append] at this
      exact this
    · rcases H3.out with h | h
      · rw [h] at hb; simp [Value.ownBlock] at hb; omega
      · rw [h] at hb; injection hb with hb; simp at hb; omega
end

section
open Go.RowKit Go.Shelf Go.Lib Go.Maps
attribute [local go_sem] Oper.semAt_some

theorem isName_at (x : ExtD) (nb : Nat) (name : List UInt8) (w : World) (hn : Box w nb (str name) 9) : Calls Tryz.prog 132 #[extVal x, .pointer (some ⟨nb, 0, none⟩)] w fun e w' => e = .returned (.bool (x.name == name)) ∧ Below w.heap.size w w' := by
  have hb : Below w.heap.size w (w.alloc (.cells #[.int .i64 x.kind, str x.name, .int .i64 x.cap.st, .int .i64 x.cap.num, str x.cap.text] 48)) := (Below.refl _ w).alloc (Nat.le_refl _) _
  have c := (hn.same (hb.block _ hn.lt)).cell
  have HB := Lib.hid hb
  clear hn hb
  go_enter Tryz.func132, Tryz.ntmps132
  go_wp2
  go_ret
  exact ⟨ret_bool (by simp [BEq.beq]), HB.out⟩
def idxInt (l : List ExtD) (name : List UInt8) : Int := match extIdx l name with | some i => (i : Int) | none => -1
theorem idx_at {l : List ExtD} {name : List UInt8} {k : Nat} {x : ExtD} (hx : l[k]? = some x) (hno : ((l.take k).any fun x => x.name == name) = false) (h : (x.name == name) = true) : idxInt l name = (k : Int) := by
  have : extIdx l name = some k := by
    unfold extIdx
    rw [List.findIdx?_eq_some_iff_getElem]
    have hlt := (List.getElem?_eq_some_iff.1 hx).1
    refine ⟨hlt, by rw [(List.getElem?_eq_some_iff.1 hx).2]; exact h, fun j hj => ?_⟩
    have := List.any_eq_false.1 hno (l[j]'(by omega)) (List.mem_of_getElem? (i := j) (by rw [List.getElem?_take_of_lt hj]; exact List.getElem?_eq_getElem (by omega)))
    simpa using this
  rw [idxInt, this]
theorem idx_none {l : List ExtD} {name : List UInt8} (hno : (l.any fun x => x.name == name) = false) : idxInt l name = -1 := by
  have : extIdx l name = none := by
    unfold extIdx
    rw [List.findIdx?_eq_none_iff]
    intro x hx
    have := List.any_eq_false.1 hno x hx
    simpa using this
  rw [idxInt, this]
set_option maxRecDepth 100000 in
theorem indexFunc_any (w : World) (v : Value) (l : List ExtD) (h : ExtsV w v l) (nb : Nat) (name : List UInt8) (hn : Box w nb (str name) 9) :
    Calls Tryz.prog 131 #[v, .func (.func 132) #[] #[.pointer (some ⟨nb, 0, none⟩)]] w fun e w' => e = .returned (.int .i64 (idxInt l name)) ∧ Below w.heap.size w w' := by
  obtain ⟨A, cap, rfl, hsm⟩ := h.form
  have H := Lib.hid h
  have HN := Lib.hid hn
  clear h hn
  obtain ⟨n, hln⟩ : ∃ n, l.length = n := ⟨_, rfl⟩
  have HL := Lib.hid hln
  rw [hln] at H hsm ⊢
  clear hln
  go_enter Tryz.func131, Tryz.ntmps131
  go_wp2_with fail
  go_loopw [8] (fun i wr => LoopB w (fun k => k ≤ n ∧ ((l.take k).any fun x => x.name == name) = false) i wr) (fun i _ => n - (RowKit.intOf i).toNat)
  case atStart => exact ⟨0, rfl, ⟨Nat.zero_le _, rfl⟩, Below.refl _ _⟩
  case round =>
    obtain ⟨k, rfl, ⟨hk, hno⟩, hb⟩ := hrel
    have HNO := Lib.hid hno
    have HB := Lib.hid hb
    clear hno hb
    by_cases hlt : k < n
    · obtain ⟨x, hx⟩ : ∃ x, l[k]? = some x := ⟨_, List.getElem?_eq_getElem (by rw [HL.out]; exact hlt)⟩
      obtain ⟨kb, off, rfl, hkb, g0, g1, g2, g3, g4⟩ := H.out.cells hx
      rw [← HB.out.cell (p := ⟨kb, off + k * 5, none⟩) hkb] at g0
      rw [← HB.out.cell (p := ⟨kb, off + k * 5 + 1, none⟩) hkb] at g1
      rw [← HB.out.cell (p := ⟨kb, off + k * 5 + 2, none⟩) hkb] at g2
      rw [← HB.out.cell (p := ⟨kb, off + k * 5 + 3, none⟩) hkb] at g3
      rw [← HB.out.cell (p := ⟨kb, off + k * 5 + 4, none⟩) hkb] at g4
      have i1 : (0 : Int) ≤ (k : Int) := by omega
      have i2 : (k : Int) < (n : Int) := by omega
      have HX := Lib.hid hx
      have CI := Lib.hid (isName_at x nb name wr (HN.out.same (HB.out.block _ HN.out.lt)))
      clear hx hkb
      cases hq : (x.name == name) with
      | true =>
        have HQ := Lib.hid hq
        rw [hq] at CI
        clear hq
        go_wp2_with (go_at_call 132; refine (CI.out).mono ?_; rintro e w2 ⟨rfl, hb2⟩; have HB2 := Lib.hid (HB.out.trans (hb2.mono HB.out.size)); clear hb2)
        go_ret
        exact ⟨by rw [idx_at HX.out HNO.out HQ.out]; rfl, HB2.out⟩
      | false =>
        have HQ := Lib.hid hq
        rw [hq] at CI
        clear hq
        go_wp2_with (go_at_call 132; refine (CI.out).mono ?_; rintro e w2 ⟨rfl, hb2⟩; have HB2 := Lib.hid (HB.out.trans (hb2.mono HB.out.size)); clear hb2)
        exact ⟨⟨k + 1, by go_num, ⟨hlt, any_next HX.out HNO.out HQ.out⟩, HB2.out⟩, by simp [RowKit.intOf]; omega⟩
    · obtain rfl : k = n := by omega
      go_wp2_with fail
      go_ret
      exact ⟨by rw [idx_none (any_end (Nat.le_of_eq HL.out) HNO.out)]; rfl, HB.out⟩
set_option maxRecDepth 100000 in
theorem indexOf_any (w : World) (v : Value) (l : List ExtD) (h : ExtsV w v l) (name : List UInt8) :
    Calls Tryz.prog 102 #[v, str name] w fun e w' => e = .returned (.int .i64 (idxInt l name)) ∧ Below w.heap.size w w' := by
  have hb : Below w.heap.size w (w.alloc (.cells #[str name] 9)) := (Below.refl _ w).alloc (Nat.le_refl _) _
  have CF := Lib.hid (indexFunc_any _ v l (h.below hb) w.heap.size name (World.alloc_heap_new w _))
  have HB := Lib.hid hb
  clear h hb
  go_enter Tryz.func102, Tryz.ntmps102
  go_wp2_with (go_at_call 131; refine (CF.out).mono ?_; rintro e w2 ⟨rfl, hb2⟩; have HB2 := Lib.hid (HB.out.trans (hb2.mono HB.out.size)); clear hb2)
  go_ret
  exact ⟨rfl, HB2.out⟩
end

section
open Go.RowKit Go.Shelf Go.Lib Go.Maps
attribute [local go_sem] Oper.semAt_some

def extR (l : List ExtD) (name : List UInt8) : Int × CapD × Bool := match extIdx l name with
  | some i => match l[i]? with | some x => (x.kind, x.cap, true) | none => (0, cap0, false)
  | none => (0, cap0, false)
/-- what a name gets: its kind, its capability, whether it is known -/
def findR (t : TermD) (name : List UInt8) : Int × CapD × Bool := match placeP name with | some (k, n) => (k, getP (listOf t k) n.toNat, true) | none => extR t.exts name
theorem extIdx_at {l : List ExtD} {name : List UInt8} {i : Nat} (h : extIdx l name = some i) : ∃ x, l[i]? = some x ∧ x.name = name := by
  unfold extIdx at h
  rw [List.findIdx?_eq_some_iff_getElem] at h
  obtain ⟨hlt, h1, _⟩ := h
  exact ⟨_, List.getElem?_eq_getElem hlt, by simpa using h1⟩
abbrev findVal (r : Int × CapD × Bool) : Value := .tuple #[.int .i64 r.1, capVal r.2.1, .bool r.2.2]
def ExtPost (w : World) (r : Int × CapD × Bool) (e : Ending) (w' : World) : Prop := e = .returned (findVal r) ∧ Below w.heap.size w w'

set_option maxRecDepth 100000 in
theorem findExt_any (w : World) (v : Value) (l : List ExtD) (h : ExtsV w v l) (name : List UInt8) : Calls Tryz.prog 106 #[v, str name] w (ExtPost w (extR l name)) := by
  have hb : Below w.heap.size w (w.alloc capZero) := (Below.refl _ w).alloc (Nat.le_refl _) _
  have HB := Lib.hid hb
  have hbz := build_cap0
  have CI := Lib.hid (indexOf_any (w.alloc capZero) v l (h.below hb) name)
  cases hx : extIdx l name with
  | none =>
    have HR : Hid (extR l name = (0, cap0, false)) := Lib.hid (by rw [extR, hx])
    rw [show idxInt l name = -1 by rw [idxInt, hx]] at CI
    rw [HR.out]
    clear h hb hx
    go_enter Tryz.func106, Tryz.ntmps106
    go_wp2_with (go_at_call 102; refine (CI.out).mono ?_; rintro e w2 ⟨rfl, hb2⟩; have hbox := (hb2.block w.heap.size (by simp)).trans (World.alloc_heap_new w capZero); obtain ⟨d0, d1, d2, f0, f1, f2⟩ := capZero_facts hbox; have HB2 := Lib.hid (And.intro hbox (HB.out.trans (hb2.mono HB.out.size))); clear hb2 hbox)
    have hX := storeCap_touch w2 w.heap.size cap0
    obtain ⟨r0, r1, r2⟩ := storeCap_cells (c := cap0) HB2.out.1
    simp only [storeCap, cap0] at r0 r1 r2
    refine bodyPost_ret (v := findVal (0, cap0, false)) (by simp [results, Tryz.results106, go_sem, r0, r1, r2, cap0]) rfl ?_
    exact ⟨rfl, HB2.out.2.trans (hX.below HB2.out.2.size fun k hk => by omega)⟩
  | some i =>
    obtain ⟨x, hi, _⟩ := extIdx_at hx
    have HR : Hid (extR l name = (x.kind, x.cap, true)) := Lib.hid (by rw [extR, hx]; simp only [hi])
    rw [show idxInt l name = (i : Int) by rw [idxInt, hx]] at CI
    rw [HR.out]
    obtain ⟨A, cap, rfl, hsm⟩ := h.form
    have hlt := (List.getElem?_eq_some_iff.1 hi).1
    obtain ⟨kb, off, rfl, hkb, g0, g1, g2, g3, g4⟩ := h.cells hi
    obtain ⟨n, hln⟩ : ∃ n, l.length = n := ⟨_, rfl⟩
    rw [hln] at CI hsm hlt ⊢
    have i1 : (0 : Int) ≤ (i : Int) := by omega
    have i2 : (i : Int) < (n : Int) := by omega
    have G := Lib.hid (And.intro hkb (And.intro g0 (And.intro g2 (And.intro g3 g4))))
    clear h hb hx hi hkb g0 g1 g2 g3 g4 hln
    go_enter Tryz.func106, Tryz.ntmps106
    go_wp2_with (go_at_call 102; refine (CI.out).mono ?_; rintro e w2 ⟨rfl, hb2⟩; have hbox := (hb2.block w.heap.size (by simp)).trans (World.alloc_heap_new w capZero); obtain ⟨d0, d1, d2, f0, f1, f2⟩ := capZero_facts hbox; have HB2 := Lib.hid (And.intro hbox (HB.out.trans (hb2.mono HB.out.size))); have b0 := HB2.out.2.cell (p := ⟨kb, off + i * 5, none⟩) G.out.1; have b2 := HB2.out.2.cell (p := ⟨kb, off + i * 5 + 2, none⟩) G.out.1; have b3 := HB2.out.2.cell (p := ⟨kb, off + i * 5 + 3, none⟩) G.out.1; have b4 := HB2.out.2.cell (p := ⟨kb, off + i * 5 + 4, none⟩) G.out.1; rw [G.out.2.1] at b0; rw [G.out.2.2.1] at b2; rw [G.out.2.2.2.1] at b3; rw [G.out.2.2.2.2] at b4; have hkn : ¬ kb = w.heap.size := (by have := G.out.1; omega); clear hb2 hbox)
    go_region
    all_goals
      go_wp2
      have hX := storeCap_touch w2 w.heap.size x.cap
      obtain ⟨r0, r1, r2⟩ := storeCap_cells (c := x.cap) HB2.out.1
      refine bodyPost_ret (v := findVal (x.kind, x.cap, true)) (by simp [results, Tryz.results106, go_sem, r0, r1, r2]) rfl ?_
      exact ⟨rfl, HB2.out.2.trans ((hX.drew).below HB2.out.2.size fun k hk => by omega)⟩

set_option maxRecDepth 100000 in
set_option maxHeartbeats 2000000 in
theorem find_any (w : World) (t : TermD) (v : Nat → Value) (ve : Value) (h : TermV w v ve t) (hT : Tabs w) (name : List UInt8) : Calls Tryz.prog 56 #[termVal t v ve, str name] w (ExtPost w (findR t name)) := by
  cases hp : placeP name with
  | some q =>
    obtain ⟨k, n⟩ := q
    have := find_known w t v ve h hT name k n hp
    rw [show findR t name = (k, getP (listOf t k) n.toNat, true) by rw [findR, hp]]
    exact this
  | none =>
    rw [show findR t name = extR t.exts name by rw [findR, hp]]
    have CP := Lib.hid (fun W (hW : Tabs W) => place_any name W hW.run)
    have hres : placeRes name = .tuple #[.int .i64 0, .int .i64 0, .bool false] := by unfold placeRes; rw [hp]
    unfold PlacePost at CP
    rw [hres] at CP
    have HT := Lib.hid hT
    have CE := Lib.hid (fun W (hW : Below w.heap.size w W) => findExt_any W ve t.exts (h.exts.below hW) name)
    generalize extR t.exts name = r at *
    obtain ⟨rk, rc, rb⟩ := r
    unfold ExtPost at CE
    clear hres hp hT h
    go_enter Tryz.func56, Tryz.ntmps56
    go_wp2_with (first
      | (go_at_call 30; refine (CP.out _ (HT.out.below (((Below.refl _ w).alloc (Nat.le_refl _) _).alloc (by simp) _))).mono ?_; rintro e w2 ⟨rfl, hb2⟩; obtain ⟨x1, x2, x3, x4⟩ := two_boxes hb2; have HB2 := Lib.hid (And.intro x2 (And.intro x3 x4)); have c0 := cell_of_row w2 w.heap.size 5 _ _ _ x1; simp only [List.getElem?_toArray, List.getElem?_cons_zero, List.getElem?_cons_succ] at c0; clear hb2 x1 x2 x3 x4)
      | (go_at_call 106; refine (CE.out _ HB2.out.2.1).mono ?_; rintro e w3 ⟨rfl, hb3⟩; have hbox := (hb3.block _ HB2.out.2.2).trans HB2.out.1; obtain ⟨d0, d1, d2, f0, f1, f2⟩ := capZero_facts hbox; have HB3 := Lib.hid (And.intro hbox (HB2.out.2.1.trans (hb3.mono HB2.out.2.1.size))); clear hb3 hbox))
    have hX := storeCap_touch w3 (w.heap.size + 1) rc
    obtain ⟨r0, r1, r2⟩ := storeCap_cells (c := rc) HB3.out.1
    refine bodyPost_ret (v := findVal (rk, rc, rb)) (by simp [results, Tryz.results56, go_sem, r0, r1, r2]) rfl ?_
    exact ⟨rfl, HB3.out.2.trans (hX.below HB3.out.2.size fun k hk => by omega)⟩

/-- what Get answers -/
def GetPost (w : World) (r : Int × CapD × Bool) (e : Ending) (w' : World) : Prop := e = .returned (.tuple #[capVal r.2.1, .bool r.2.2]) ∧ Below w.heap.size w w'
set_option maxRecDepth 100000 in
set_option maxHeartbeats 2000000 in
theorem get_any (w : World) (t : TermD) (v : Nat → Value) (ve : Value) (h : TermV w v ve t) (hT : Tabs w) (name : List UInt8) : Calls Tryz.prog 16 #[termVal t v ve, str name] w (GetPost w (findR t name)) := by
  have CF := Lib.hid (fun W (hW : Below w.heap.size w W) => find_any W t v ve (h.below hW) (hT.below hW) name)
  generalize findR t name = r at *
  obtain ⟨rk, rc, rb⟩ := r
  unfold ExtPost at CF
  clear h hT
  go_enter Tryz.func16, Tryz.ntmps16
  go_wp2_with (go_at_call 56; refine (CF.out _ (((Below.refl _ w).alloc (Nat.le_refl _) _).alloc (by simp) _)).mono ?_; rintro e w2 ⟨rfl, hb2⟩; obtain ⟨x1, x2, x3, x4⟩ := two_boxes hb2; have HB2 := Lib.hid (And.intro x2 (And.intro x3 x4)); have y2 := (Below.heap_alloc w2 (.cells #[.int .i64 rc.st, .int .i64 rc.num, str rc.text] 37) (w.heap.size + 1) x4).trans x2; have Y2 := Lib.hid (And.intro y2 (x3.alloc x3.size (.cells #[.int .i64 rc.st, .int .i64 rc.num, str rc.text] 37))); obtain ⟨d0, d1, d2, f0, f1, f2⟩ := capZero_facts y2; clear hb2 x1 x2 x3 x4 y2)
  generalize w2.alloc (.cells #[.int .i64 rc.st, .int .i64 rc.num, str rc.text] 37) = w3 at *
  have hX := storeCap_touch w3 (w.heap.size + 1) rc
  obtain ⟨r0, r1, r2⟩ := storeCap_cells (c := rc) Y2.out.1
  refine bodyPost_ret (v := .tuple #[capVal rc, .bool rb]) (by simp [results, Tryz.results16, go_sem, r0, r1, r2]) rfl ?_
  exact ⟨rfl, Y2.out.2.trans (hX.below Y2.out.2.size fun k hk => by omega)⟩
end

section
open Go.RowKit Go.Shelf Go.Lib
attribute [local go_sem] Oper.semAt_some

def withCap (c : CapD) (x : ExtD) : ExtD := { x with cap := c }
theorem extVals_modify (l : List ExtD) (i : Nat) (c : CapD) : extVals (l.modify i (withCap c)) = if i < l.length then (((extVals l).set (i * 5 + 2) (.int .i64 c.st)).set (i * 5 + 3) (.int .i64 c.num)).set (i * 5 + 4) (str c.text) else extVals l := by
  induction l generalizing i with
  | nil => simp
  | cons x l ih =>
    cases i with
    | zero => simp [extVals, extCells, withCap]
    | succ i =>
      have e2 : (i + 1) * 5 + 2 = i * 5 + 2 + 1 + 1 + 1 + 1 + 1 := by omega
      have e3 : (i + 1) * 5 + 3 = i * 5 + 3 + 1 + 1 + 1 + 1 + 1 := by omega
      have e4 : (i + 1) * 5 + 4 = i * 5 + 4 + 1 + 1 + 1 + 1 + 1 := by omega
      have := ih i
      simp only [List.modify_succ_cons, extVals, List.flatMap_cons, extCells, List.length_cons, Nat.add_lt_add_iff_right, e2, e3, e4, List.cons_append, List.nil_append, List.set_cons_succ] at this ⊢
      rw [this]
      split <;> rfl
abbrev storeExt (W : World) (g i : Nat) (c : CapD) : World := ((W.setCell ⟨g, i * 5 + 2, none⟩ (.int .i64 c.st)).setCell ⟨g, i * 5 + 3, none⟩ (.int .i64 c.num)).setCell ⟨g, i * 5 + 4, none⟩ (str c.text)
theorem storeExt_touch (W : World) (g i : Nat) (c : CapD) : Touch (fun k => k = g) W (storeExt W g i c) :=
  ((Touch.setCell (T := fun k => k = g) W ⟨g, i * 5 + 2, none⟩ _ rfl).trans (Touch.setCell _ ⟨g, i * 5 + 3, none⟩ _ rfl)).trans (Touch.setCell _ ⟨g, i * 5 + 4, none⟩ _ rfl)
theorem ExtRow.setAt {W : World} {g cap n i : Nat} {l : List ExtD} {c : CapD} (h : ExtRow W (.slice (some ⟨g, 0, none⟩) n cap) l) (hi : i < l.length) : ExtRow (storeExt W g i c) (.slice (some ⟨g, 0, none⟩) n cap) (l.modify i (withCap c)) := by
  obtain ⟨h1, h2⟩ := h
  rcases h2 with ⟨e, _⟩ | ⟨g', cap', cur, e, hb, hh, hn, hcm, hs, ht⟩
  · cases e
  · injection e with e1 e2 e3
    injection e1 with e1
    injection e1 with e1
    subst e1 e2 e3
    have s1 := heap_setCell_same W g (i * 5 + 2) _ _ (.int .i64 c.st) hh
    have s2 := heap_setCell_same _ g (i * 5 + 3) _ _ (.int .i64 c.num) s1
    have s3 := heap_setCell_same _ g (i * 5 + 4) _ _ (str c.text) s2
    refine ⟨by rw [extVals_length], .inr ⟨g, cap, _, by rw [List.length_modify], hb, s3, by rw [List.length_modify]; exact hn, hcm, by simp [hs], ?_⟩⟩
    rw [List.length_modify, Array.toList_setIfInBounds, Array.toList_setIfInBounds, Array.toList_setIfInBounds, List.take_set, List.take_set, List.take_set, ht, extVals_modify, if_pos hi]
theorem ExtRow.at {W : World} {g cap n i : Nat} {l : List ExtD} {c : ExtD} (h : ExtRow W (.slice (some ⟨g, 0, none⟩) n cap) l) (hi : l[i]? = some c) :
    W.cell? ⟨g, i * 5 + 2, none⟩ = some (.int .i64 c.cap.st) ∧ W.cell? ⟨g, i * 5 + 3, none⟩ = some (.int .i64 c.cap.num) ∧ W.cell? ⟨g, i * 5 + 4, none⟩ = some (str c.cap.text) ∧ ∀ j, W.frozen? ⟨g, j, none⟩ = false := by
  obtain ⟨h1, h2⟩ := h
  rcases h2 with ⟨e, _⟩ | ⟨g', cap', cur, e, hb, hh, hn, hcm, hs, ht⟩
  · cases e
  · injection e with e1 e2 e3
    injection e1 with e1
    injection e1 with e1
    subst e1 e2 e3
    have hlt := (List.getElem?_eq_some_iff.1 hi).1
    have each : ∀ j, j < 5 → cur[i * 5 + j]? = (extCells c)[j]? := fun j hj => by
      rw [← extVals_at hi j hj, ← ht, List.getElem?_take_of_lt (by omega), Array.getElem?_toList]
    refine ⟨?_, ?_, ?_, fun j => frozen_of_row W g j _ _ hh⟩
    · rw [cell_of_row W g (i * 5 + 2) cur _ (0, 0) hh]; exact each 2 (by omega)
    · rw [cell_of_row W g (i * 5 + 3) cur _ (0, 0) hh]; exact each 3 (by omega)
    · rw [cell_of_row W g (i * 5 + 4) cur _ (0, 0) hh]; exact each 4 (by omega)
theorem ExtRow.form {W : World} {v : Value} {l : List ExtD} (h : ExtRow W v l) : ∃ A cap, v = .slice A l.length cap := by
  obtain ⟨A, cap, e, _⟩ := own_form h
  exact ⟨A, cap, e⟩
theorem ExtRow.head {W : World} {A : Option Addr} {n cap : Nat} {l : List ExtD} (h : ExtRow W (.slice A n cap) l) (hl : 0 < l.length) : ∃ g, A = some ⟨g, 0, none⟩ ∧ g < W.heap.size := by
  rcases h.2 with ⟨e, h0⟩ | ⟨g, cap', cur, e, _, hh, _⟩
  · omega
  · injection e with e1 _ _; exact ⟨g, e1, (Array.getElem?_eq_some_iff.1 hh).1⟩
/-- one extended capability of the entry has another value -/
theorem TermAt.putExt {W : World} {FP : Nat → Prop} {tb : Nat} {v : Nat → Value} {t : TermD} {g cap n i : Nat} {c : CapD} (h : TermAt W FP tb v (.slice (some ⟨g, 0, none⟩) n cap) t) (hi : i < t.exts.length) :
    TermAt (storeExt W g i c) FP tb v (.slice (some ⟨g, 0, none⟩) n cap) { t with exts := t.exts.modify i (withCap c) } ∧ Touch FP W (storeExt W g i c) := by
  have ht := storeExt_touch W g i c
  have hg := h.owne g rfl
  refine ⟨⟨(ht.block _ h.lt fun e => hg.2 e.symm).trans h.cells, fun j hj => ?_, h.exts.setAt hi, h.self, h.own, h.owne, h.apart, h.aparte⟩, ht.mono fun k _ hk => by subst hk; exact hg.1⟩
  have := h.rows j hj
  refine own_same (xs := capVals (listOf t j)) this fun b hb => ht.block b (own_lt this b hb).2 fun e => ?_
  subst e
  exact h.aparte j hj b hb rfl

set_option maxRecDepth 100000 in
set_option maxHeartbeats 2000000 in
theorem put_unknown (w : World) (FP : Nat → Prop) (tb : Nat) (v : Nat → Value) (ve : Value) (t : TermD) (name : List UInt8) (c : CapD) (h : TermAt w FP tb v ve t) (hT : Tabs w) (hsm : t.exts.length * 56 ≤ 140737488355328) (hp : placeP name = none) :
    Calls Tryz.prog 52 #[.pointer (some ⟨tb, 0, none⟩), str name, capVal c] w (PutPost w FP tb t name c) := by
  have CP := Lib.hid (fun W (hW : Tabs W) => place_any name W hW.run)
  have hres : placeRes name = .tuple #[.int .i64 0, .int .i64 0, .bool false] := by unfold placeRes; rw [hp]
  unfold PlacePost at CP
  rw [hres] at CP
  have HT := Lib.hid hT
  have H := Lib.hid h
  have hbx : Below w.heap.size w (w.alloc (.cells #[.int .i64 c.st, .int .i64 c.num, str c.text] 37)) := (Below.refl _ w).alloc (Nat.le_refl _) _
  have HBX := Lib.hid hbx
  obtain ⟨A, cap, rfl⟩ := h.exts.form
  have CI := Lib.hid (fun W (hW : Below w.heap.size w W) => indexOf_any W _ t.exts ((h.exts.reads hsm).below hW) name)
  cases hx : extIdx t.exts name with
  | none =>
    have HP : Hid (putTP t name c = none) := Lib.hid (by unfold putTP; rw [hp, hx])
    rw [show idxInt t.exts name = -1 by rw [idxInt, hx]] at CI
    clear hp hres hT h hbx hx
    go_enter Tryz.func52, Tryz.ntmps52
    go_wp2_with (first
      | (go_at_call 30; refine (CP.out _ (HT.out.below HBX.out)).mono ?_; rintro e w2 ⟨rfl, hb2⟩; have HB2 := Lib.hid (HBX.out.trans (hb2.mono HBX.out.size)); have c0 := cell_of_row w2 tb 5 _ _ _ ((H.out.below HB2.out).cells); simp only [List.getElem?_toArray, List.getElem?_cons_zero, List.getElem?_cons_succ] at c0; clear hb2)
      | (go_at_call 102; refine (CI.out _ HB2.out).mono ?_; rintro e w3 ⟨rfl, hb3⟩; have HB3 := Lib.hid (HB2.out.trans (hb3.mono HB2.out.size)); clear hb3))
    go_ret
    refine ⟨v, .slice A t.exts.length cap, by rw [HP.out]; rfl, ?_, Touch.of_below HB3.out⟩
    rw [HP.out]
    exact (H.out.below HB3.out).more fun k _ hk => .inl hk
  | some i =>
    obtain ⟨x, hi, _⟩ := extIdx_at hx
    have hlt := (List.getElem?_eq_some_iff.1 hi).1
    have HP : Hid (putTP t name c = some { t with exts := t.exts.modify i (withCap c) }) := Lib.hid (by unfold putTP; rw [hp, hx]; rfl)
    rw [show idxInt t.exts name = (i : Int) by rw [idxInt, hx]] at CI
    obtain ⟨g, rfl, hg⟩ := h.exts.head (by omega)
    have HLT := Lib.hid hlt
    obtain ⟨n, hln⟩ : ∃ n, t.exts.length = n := ⟨_, rfl⟩
    have HLN := Lib.hid hln
    rw [hln] at CI hsm hlt H
    have i1 : (0 : Int) ≤ (i : Int) := by omega
    have i2 : (i : Int) < (n : Int) := by omega
    have hgt := h.owne g rfl
    have hne : ¬ g = tb := hgt.2
    have HI := Lib.hid hi
    clear hp hres hT h hbx hx hi hln hgt
    go_enter Tryz.func52, Tryz.ntmps52
    go_wp2_with (first
      | (go_at_call 30; refine (CP.out _ (HT.out.below HBX.out)).mono ?_; rintro e w2 ⟨rfl, hb2⟩; have HB2 := Lib.hid (HBX.out.trans (hb2.mono HBX.out.size)); have c0 := cell_of_row w2 tb 5 _ _ _ ((H.out.below HB2.out).cells); simp only [List.getElem?_toArray, List.getElem?_cons_zero, List.getElem?_cons_succ] at c0; have HBB := Lib.hid ((hb2.block w.heap.size (by simp)).trans (World.alloc_heap_new w _)); clear hb2)
      | (go_at_call 102; refine (CI.out _ HB2.out).mono ?_; rintro e w3 ⟨rfl, hb3⟩; have hbb3 := (hb3.block w.heap.size (Array.getElem?_eq_some_iff.1 HBB.out).1).trans HBB.out; have k0 := cell_of_row w3 w.heap.size 0 _ _ _ hbb3; have k1 := cell_of_row w3 w.heap.size 1 _ _ _ hbb3; have k2 := cell_of_row w3 w.heap.size 2 _ _ _ hbb3; simp only [List.getElem?_toArray, List.getElem?_cons_zero, List.getElem?_cons_succ] at k0 k1 k2; have HB3 := Lib.hid (HB2.out.trans (hb3.mono HB2.out.size)); have HT3 := Lib.hid (H.out.below HB3.out); clear c0; have c0 := cell_of_row w3 tb 5 _ _ _ HT3.out.cells; simp only [List.getElem?_toArray, List.getElem?_cons_zero, List.getElem?_cons_succ] at c0; obtain ⟨e0, e1, e2, fz⟩ := HT3.out.exts.at HI.out; have f0 := fz (i * 5 + 2); have f1 := fz (i * 5 + 3); have f2 := fz (i * 5 + 4); clear hb3 hbb3 fz))
    have HD := Lib.hid (HT3.out.same (W' := w3.drew) fun _ _ _ => rfl)
    go_region
    all_goals
      go_wp2
      go_ret
      obtain ⟨h1, h2⟩ := HD.out.putExt (c := c) HLT.out
      refine ⟨v, .slice (some ⟨g, 0, none⟩) n cap, by rw [HP.out]; rfl, ?_, ((Touch.of_below HB3.out).drew).trans h2⟩
      rw [HP.out]
      exact h1.more fun k _ hk => .inl hk

theorem put_any (w : World) (FP : Nat → Prop) (tb : Nat) (v : Nat → Value) (ve : Value) (t : TermD) (name : List UInt8) (c : CapD) (h : TermAt w FP tb v ve t) (hT : Tabs w) (hsm : t.exts.length * 56 ≤ 140737488355328) :
    Calls Tryz.prog 52 #[.pointer (some ⟨tb, 0, none⟩), str name, capVal c] w (PutPost w FP tb t name c) := by
  cases hp : placeP name with
  | none => exact put_unknown w FP tb v ve t name c h hT hsm hp
  | some q =>
    obtain ⟨k, n⟩ := q
    obtain ⟨hk, hn0, hn⟩ := placeP_small hp
    obtain ⟨n', rfl⟩ : ∃ n' : Nat, n = n' := ⟨n.toNat, by omega⟩
    obtain ⟨k', hk', rfl⟩ : ∃ k' : Nat, k' < 3 ∧ k = k' := ⟨k.toNat, by omega, by omega⟩
    exact put_known w FP tb v ve t name c h hT k' n' hk' hp (by omega)
end
end Go.Proofs.YtcfgppjhgobboaaGreatDoor
