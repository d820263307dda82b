/-
  What Check of package tinfo finds, as plain functions. No program is walked here, and nothing is assumed.
  What the parts of Check of package tinfo return.
  What extNames.add, allFit, extsFit and tooLong of package tinfo return.
-/
import Derived.Test.YtcfgppjhgobboaaGreatDoorTmLive
import Derived.Maps.OwnSet
namespace Go.Proofs.YtcfgppjhgobboaaGreatDoor
section
open Go.RowKit Go.Lib

def longText (l : List CapD) : Bool := l.any fun c => decide (1000 < c.text.length)
def longExt (l : List ExtD) : Bool := l.any fun x => decide (1000 < x.name.length) || decide (1000 < x.cap.text.length)
def tooLongP (t : TermD) : Bool :=
  (decide (511 < t.names.length) || decide (64 < t.bools.length) || decide (64 < t.nums.length) || decide (512 < t.strs.length) || decide (256 < t.exts.length)) || longExt t.exts || (longText t.bools || longText t.nums || longText t.strs)
def topP (w : Bool) : Int := if w then 2147483647 else 32767
def hasEndP (s : List UInt8) : Bool := decide (0 ≤ indexByte s 0)
def isNameP (s : List UInt8) : Bool := !s.isEmpty && !hasEndP s
def bareP (c : CapD) : Bool := c.num == 0 && c.text.isEmpty
def fitsP (c : CapD) (kind top : Int) : Bool :=
  if c.st = 1 then
    if kind = 0 then bareP c else if kind = 1 then decide (0 ≤ c.num) && decide (c.num ≤ top) && c.text.isEmpty else c.num == 0 && !hasEndP c.text
  else bareP c && (c.st == 0 || c.st == 2)
def addP (seen : List (List UInt8)) (name : List UInt8) : Bool := isNameP name && !(seen.contains name) && (placeP name).isNone
def extOk (top : Int) (seen : List (List UInt8)) (least : Int) (x : ExtD) : Bool := !(decide (x.kind < least) || decide (2 < x.kind) || !fitsP x.cap x.kind top || !addP seen x.name)
def extsFitP (top : Int) : List (List UInt8) → Int → List ExtD → Bool
  | _, _, [] => true
  | seen, least, x :: r => extOk top seen least x && extsFitP top (seen ++ [x.name]) x.kind r
def validP (t : TermD) : Bool :=
  isNameP t.names && (t.bools.all fun c => fitsP c 0 (topP t.wide)) && (t.nums.all fun c => fitsP c 1 (topP t.wide)) && (t.strs.all fun c => fitsP c 2 (topP t.wide)) && extsFitP (topP t.wide) [] 0 t.exts
def checkP (t : TermD) : Int := if tooLongP t then 3 else if validP t then 0 else 1
end

section
open Go.RowKit Go.Shelf Go.Lib
attribute [local go_sem] Oper.semAt_some

theorem hasEnd_any (s : List UInt8) (w : World) : Calls Tryz.prog 145 #[str s] w fun e w' => e = .returned (.bool (hasEndP s)) ∧ w = w' := by
  have CC := Lib.hid (fun W => (Any.strings_Contains_one Tryz.layContains ⟨s.toArray⟩ 0 W).mono fun e w' (h : e = .returned (.bool (decide (0 ≤ indexByte s 0))) ∧ w' = W) => And.intro h.1 h.2.symm)
  go_enter Tryz.func145, Tryz.ntmps145
  go_wp2_with (go_at_call 156; refine (CC.out _).mono ?_; rintro e w' ⟨rfl, rfl⟩)
  go_ret
  exact ⟨rfl, rfl⟩
theorem isName_any (s : List UInt8) (w : World) : Calls Tryz.prog 128 #[str s] w fun e w' => e = .returned (.bool (isNameP s)) ∧ w = w' := by
  cases s with
  | nil =>
    go_enter Tryz.func128, Tryz.ntmps128
    go_wp2_with fail
    go_ret
    exact ⟨rfl, rfl⟩
  | cons c r =>
    have hne : (c :: r) ≠ [] := by simp
    have HV : Hid (isNameP (c :: r) = !hasEndP (c :: r)) := Lib.hid rfl
    have CH := Lib.hid (fun W => hasEnd_any (c :: r) W)
    generalize hasEndP (c :: r) = b at *
    generalize c :: r = s at *
    go_enter Tryz.func128, Tryz.ntmps128
    go_wp2_with (go_at_call 145; refine (CH.out _).mono ?_; rintro e w' ⟨rfl, rfl⟩)
    go_ret
    exact ⟨ret_bool (by rw [HV.out]; simp [hne]), rfl⟩
theorem maxNumber_any (b : Bool) (w : World) : Calls Tryz.prog 127 #[.bool b] w fun e w' => e = .returned (.int .i64 (topP b)) ∧ w = w' := by
  cases b
  all_goals
    go_enter Tryz.func127, Tryz.ntmps127
    go_wp2_with fail
    go_ret
    exact ⟨rfl, rfl⟩

/-- between two capabilities -/
def LoopB (w : World) (ok : Nat → Prop) (i : Value) (W : World) : Prop := ∃ k : Nat, i = .int .i64 k ∧ ok k ∧ Below w.heap.size w W
theorem any_next {α : Type} {l : List α} {f : α → Bool} {k : Nat} {x : α} (hx : l[k]? = some x) (h : (l.take k).any f = false) (hf : f x = false) : (l.take (k + 1)).any f = false := by
  rw [List.take_add_one, hx, List.any_append, h]
  simp [hf]
theorem any_at {α : Type} {l : List α} {f : α → Bool} {k : Nat} {x : α} (hx : l[k]? = some x) (hf : f x = true) : l.any f = true := List.any_eq_true.2 ⟨x, List.mem_of_getElem? hx, hf⟩
theorem any_end {α : Type} {l : List α} {f : α → Bool} {k : Nat} (hk : l.length ≤ k) (h : (l.take k).any f = false) : l.any f = false := by rwa [List.take_of_length_le hk] at h

set_option maxRecDepth 100000 in
theorem hasLong_any (w : World) (v : Value) (l : List CapD) (h : CapsV w v l) : Calls Tryz.prog 126 #[v] w fun e w' => e = .returned (.bool (longText l)) ∧ Below w.heap.size w w' := by
  obtain ⟨A, cap, rfl, hsm⟩ := h.form
  have H := Lib.hid h
  clear h
  obtain ⟨n, hn⟩ : ∃ n, l.length = n := ⟨_, rfl⟩
  have HN := Lib.hid hn
  rw [hn] at H hsm ⊢
  clear hn
  go_enter Tryz.func126, Tryz.ntmps126
  go_wp2_with fail
  go_loopw [7] (fun i wr => LoopB w (fun k => k ≤ n ∧ ((l.take k).any fun c => decide (1000 < c.text.length)) = false) i wr) (fun i _ => n - (RowKit.intOf i).toNat)
  case atStart => exact ⟨0, rfl, ⟨Nat.zero_le _, rfl⟩, Below.refl _ _⟩
  case round =>
    obtain ⟨k, rfl, ⟨hk, hno⟩, hb⟩ := hrel
    have HNO := Lib.hid hno
    have HB := Lib.hid hb
    clear hno hb
    by_cases hlt : k < n
    · obtain ⟨c, hc⟩ : ∃ c, l[k]? = some c := ⟨_, List.getElem?_eq_getElem (by rw [HN.out]; exact hlt)⟩
      obtain ⟨kb, off, rfl, hkb, g0, g1, g2⟩ := H.out.cells hc
      rw [← HB.out.cell (p := ⟨kb, off + k * 3, none⟩) hkb] at g0
      rw [← HB.out.cell (p := ⟨kb, off + k * 3 + 1, none⟩) hkb] at g1
      rw [← HB.out.cell (p := ⟨kb, off + k * 3 + 2, none⟩) hkb] at g2
      have HC := Lib.hid hc
      clear hc hkb
      by_cases hq : 1000 < c.text.length
      · have HQ := Lib.hid hq
        have hq' : (1000 : Int) < (c.text.length : Int) := by omega
        clear hq
        go_wp2_with fail
        go_ret
        exact ⟨ret_bool (by symm; exact any_at HC.out (by simpa using HQ.out)), HB.out.alloc HB.out.size _⟩
      · have HQ := Lib.hid hq
        have hq' : ¬ (1000 : Int) < (c.text.length : Int) := by omega
        clear hq
        go_wp2_with fail
        exact ⟨⟨k + 1, by go_num, ⟨hlt, any_next HC.out HNO.out (by simpa using HQ.out)⟩, HB.out.alloc HB.out.size _⟩, by simp [RowKit.intOf]; omega⟩
    · obtain rfl : k = n := by omega
      go_wp2_with fail
      go_ret
      exact ⟨ret_bool (by symm; exact any_end (Nat.le_of_eq HN.out) HNO.out), HB.out⟩

set_option maxRecDepth 100000 in
set_option maxHeartbeats 2000000 in
theorem fits_any (w : World) (c : CapD) (kind top : Int) : Calls Tryz.prog 146 #[capVal c, .int .i64 kind, .int .i64 top] w fun e w' => e = .returned (.bool (fitsP c kind top)) ∧ Below w.heap.size w w' := by
  obtain ⟨st, num, text⟩ := c
  have CH := Lib.hid (fun W => hasEnd_any text W)
  have HF : Hid (fitsP ⟨st, num, text⟩ kind top = fitsP ⟨st, num, text⟩ kind top) := Lib.hid rfl
  have HB := Lib.hid ((Below.refl _ w).alloc (Nat.le_refl _) (.cells #[.int .i64 st, .int .i64 num, str text] 37))
  go_enter Tryz.func146, Tryz.ntmps146
  go_wp2_with (go_at_call 145; refine (CH.out _).mono ?_; rintro e w' ⟨rfl, rfl⟩)
  all_goals
    go_ret
    refine ⟨ret_bool ?_, (Below.refl _ _).alloc (Nat.le_refl _) _⟩
    clear CH HF HB
    first
      | (simp [fitsP, bareP, *]; done)
      | (simp_all [fitsP, bareP]; done)
      | (have h2 : (st != 1) = false := by assumption
         have h3 : (kind == 0) = false := by assumption
         have h4 : (kind == 1) = true := by assumption
         simp only [bne_eq_false_iff_eq, beq_iff_eq, beq_eq_false_iff_ne, ne_eq] at h2 h3 h4
         symm
         unfold fitsP
         rw [if_pos h2, if_neg h3, if_pos h4]
         simp
         omega)
end

section
open Go.RowKit Go.Shelf Go.Lib Go.Maps
attribute [local go_sem] Oper.semAt_some

theorem lawS : Keyed Tryz.prog 9 := string_keyed Tryz.underlying9
theorem zeroU (w : World) : (zeroValue 202).run Tryz.prog w = .ok (.agg #[]) w := by kernel_rfl
theorem buildU (w : World) : (Instr.build 202 #[]).run Tryz.prog w = .ok (.agg #[]) w := by kernel_rfl
theorem keyS (l : List UInt8) (h : l.length ≤ maxLen) : keyOf Tryz.prog 9 (.string ⟨l.toArray⟩) = some (.string l) := Go.WideMaps.keyOf_string_mk Tryz.underlying9 (s := ⟨l.toArray⟩) h
/-- the names that came so far -/
def NameSet (W : World) (bm : Nat) (seen : List (List UInt8)) : Prop := W.ownsMap Tryz.prog 9 (unitElem (H := Unit)) bm seen.length (setOf (.agg []) (seen.map Lit.string))
theorem NameSet.same {W W' : World} {bm : Nat} {seen : List (List UInt8)} (h : NameSet W bm seen) (hb : W'.heap[bm]? = W.heap[bm]?) : NameSet W' bm seen := by
  obtain ⟨es, clock, h1, h2⟩ := h
  exact ⟨es, clock, hb.trans h1, h2⟩
theorem NameSet.lt {W : World} {bm : Nat} {seen : List (List UInt8)} (h : NameSet W bm seen) : bm < W.heap.size := by
  obtain ⟨es, clock, h1, _⟩ := h
  exact (Array.getElem?_eq_some_iff.1 h1).1
theorem has_names (seen : List (List UInt8)) (name : List UInt8) : Maps.has (setOf (.agg [] : DataW Unit) (seen.map Lit.string)) (.string name) = seen.contains name := by
  rw [has_setOf _ _ _ (fun x hx => by obtain ⟨y, _, rfl⟩ := List.mem_map.1 hx; exact trivial)]
  rw [List.any_map, List.contains_eq_any_beq]
  congr 1
  funext x
  simp [Lit.sameKey]
  exact Bool.beq_comm ..
theorem NameSet.grow {W' : World} {bm : Nat} {seen : List (List UInt8)} {name : List UInt8} (h : W'.ownsMap Tryz.prog 9 (unitElem (H := Unit)) bm (seen.length + 1) ((setOf (.agg []) (seen.map Lit.string)).put (.string name) (.agg []))) : NameSet W' bm (seen ++ [name]) := by
  unfold NameSet
  rw [List.map_append, List.map_cons, List.map_nil, setOf_snoc, List.length_append]
  exact h

set_option maxRecDepth 100000 in
set_option maxHeartbeats 2000000 in
theorem add_any (w : World) (bm : Nat) (seen : List (List UInt8)) (name : List UInt8) (hs : NameSet w bm seen) (hT : Tabs w) (hl : seen.length ≤ 100000) (hn : name.length ≤ maxLen) :
    Calls Tryz.prog 140 #[.map (some bm), str name] w fun e w' => e = .returned (.bool (addP seen name)) ∧ NameSet w' bm (seen ++ [name]) ∧ Touch (fun k => k = bm) w w' := by
  have HSet := Lib.hid hs
  have HT := Lib.hid hT
  have HK := Lib.hid (keyS name hn)
  have hbu := buildU
  have CI := Lib.hid (fun W => isName_any name W)
  have CP := Lib.hid (fun W (hW : Tabs W) => place_any name W hW.run)
  have hpl : placeRes name = .tuple #[.int .i64 ((placeP name).getD (0, 0)).1, .int .i64 ((placeP name).getD (0, 0)).2, .bool (placeP name).isSome] := by
    unfold placeRes
    cases placeP name <;> rfl
  unfold PlacePost at CP
  rw [hpl] at CP
  have HV : Hid (addP seen name = (isNameP name && !(seen.contains name) && !(placeP name).isSome)) := Lib.hid (by unfold addP; cases placeP name <;> rfl)
  have hhas := has_names seen name
  generalize addP seen name = res at *
  generalize (placeP name).getD (0, 0) = pq at *
  generalize (placeP name).isSome = known at *
  generalize isNameP name = isn at *
  generalize seen.contains name = con at *
  clear hs hT hn hpl
  go_enter Tryz.func140, Tryz.ntmps140
  go_wp2_with (first
    | (at_lookup; refine wpList_lookup_own_unit _ rfl _ _ 185 rfl 9 202 lawS Tryz.underlying185 (zeroU _) bm seen.length _ rfl HSet.out _ _ rfl HK.out ?_; (try rw [hhas]))
    | (go_at_call 30; refine (CP.out _ (HT.out.below ((Below.refl _ _).alloc (Nat.le_refl _) _))).mono ?_; rintro e w2 ⟨rfl, hb2⟩; have HB2 := Lib.hid (((Below.refl _ w).alloc (Nat.le_refl _) _).trans (hb2.mono (by simp))); clear hb2)
    | (at_mapUpdate; refine wpList_mapUpdate_own _ rfl _ _ _ 185 rfl 9 202 lawS Tryz.underlying185 _ bm seen.length _ rfl (HSet.out.same (HB2.out.block _ HSet.out.lt)) (by unfold maxLen; omega) _ _ _ rfl rfl HK.out _ [] unitElem_mk ?_; intro w3 hown3 hg3; have HO := Lib.hid (NameSet.grow hown3); have HG := Lib.hid hg3; clear hown3 hg3)
    | (go_at_call 128; refine (CI.out _).mono ?_; rintro e w' ⟨rfl, rfl⟩))
  all_goals
    go_ret
    refine ⟨ret_bool (by rw [HV.out]; simp [*]), HO.out, (Touch.of_below HB2.out).trans (Touch.of_grown HG.out fun k hk => by cases hk; rfl)⟩

theorem all_next {α : Type} {l : List α} {f : α → Bool} {k : Nat} {x : α} (hx : l[k]? = some x) (h : (l.take k).all f = true) (hf : f x = true) : (l.take (k + 1)).all f = true := by
  rw [List.take_add_one, hx, List.all_append, h]
  simp [hf]
theorem all_at {α : Type} {l : List α} {f : α → Bool} {k : Nat} {x : α} (hx : l[k]? = some x) (hf : f x = false) : l.all f = false := List.all_eq_false.2 ⟨x, List.mem_of_getElem? hx, by simp [hf]⟩
theorem all_end {α : Type} {l : List α} {f : α → Bool} {k : Nat} (hk : l.length ≤ k) (h : (l.take k).all f = true) : l.all f = true := by rwa [List.take_of_length_le hk] at h

set_option maxRecDepth 100000 in
theorem allFit_any (w : World) (v : Value) (l : List CapD) (kind top : Int) (h : CapsV w v l) : Calls Tryz.prog 129 #[v, .int .i64 kind, .int .i64 top] w fun e w' => e = .returned (.bool (l.all fun c => fitsP c kind top)) ∧ Below w.heap.size w w' := by
  obtain ⟨A, cap, rfl, hsm⟩ := h.form
  have H := Lib.hid h
  clear h
  obtain ⟨n, hn⟩ : ∃ n, l.length = n := ⟨_, rfl⟩
  have HN := Lib.hid hn
  rw [hn] at H hsm ⊢
  clear hn
  go_enter Tryz.func129, Tryz.ntmps129
  go_wp2_with fail
  go_loopw [11] (fun i wr => LoopB w (fun k => k ≤ n ∧ ((l.take k).all fun c => fitsP c kind top) = true) i wr) (fun i _ => n - (RowKit.intOf i).toNat)
  case atStart => exact ⟨0, rfl, ⟨Nat.zero_le _, rfl⟩, Below.refl _ _⟩
  case round =>
    obtain ⟨k, rfl, ⟨hk, hno⟩, hb⟩ := hrel
    have HNO := Lib.hid hno
    have HB := Lib.hid hb
    clear hno hb
    by_cases hlt : k < n
    · obtain ⟨c, hc⟩ : ∃ c, l[k]? = some c := ⟨_, List.getElem?_eq_getElem (by rw [HN.out]; exact hlt)⟩
      obtain ⟨kb, off, rfl, hkb, g0, g1, g2⟩ := H.out.cells hc
      rw [← HB.out.cell (p := ⟨kb, off + k * 3, none⟩) hkb] at g0
      rw [← HB.out.cell (p := ⟨kb, off + k * 3 + 1, none⟩) hkb] at g1
      rw [← HB.out.cell (p := ⟨kb, off + k * 3 + 2, none⟩) hkb] at g2
      have HC := Lib.hid hc
      have CF := Lib.hid (fun W => fits_any W c kind top)
      clear hc hkb
      cases hq : fitsP c kind top with
      | false =>
        have HQ := Lib.hid hq
        rw [hq] at CF
        clear hq
        go_wp2_with (go_at_call 146; refine (CF.out _).mono ?_; rintro e w2 ⟨rfl, hb2⟩; have HB2 := Lib.hid ((HB.out.alloc HB.out.size _).trans (hb2.mono (HB.out.alloc HB.out.size _).size)); clear hb2)
        go_ret
        exact ⟨ret_bool (by symm; exact all_at HC.out HQ.out), HB2.out⟩
      | true =>
        have HQ := Lib.hid hq
        rw [hq] at CF
        clear hq
        go_wp2_with (go_at_call 146; refine (CF.out _).mono ?_; rintro e w2 ⟨rfl, hb2⟩; have HB2 := Lib.hid ((HB.out.alloc HB.out.size _).trans (hb2.mono (HB.out.alloc HB.out.size _).size)); clear hb2)
        exact ⟨⟨k + 1, by go_num, ⟨hlt, all_next HC.out HNO.out HQ.out⟩, HB2.out⟩, by simp [RowKit.intOf]; omega⟩
    · obtain rfl : k = n := by omega
      go_wp2_with fail
      go_ret
      exact ⟨ret_bool (by symm; exact all_end (Nat.le_of_eq HN.out) HNO.out), HB.out⟩

/-- between two extended capabilities -/
def ExtsR (w : World) (bm : Nat) (top : Int) (l : List ExtD) (i least : Value) (W : World) : Prop :=
  ∃ (k : Nat) (m : Int), i = .int .i64 k ∧ least = .int .i64 m ∧ k ≤ l.length ∧ extsFitP top [] 0 l = extsFitP top ((l.take k).map (·.name)) m (l.drop k) ∧ NameSet W bm ((l.take k).map (·.name)) ∧ Below w.heap.size w W
theorem extsFit_step {top : Int} {l : List ExtD} {k : Nat} {m : Int} {x : ExtD} (hx : l[k]? = some x) (h : extsFitP top [] 0 l = extsFitP top ((l.take k).map (·.name)) m (l.drop k)) :
    extsFitP top [] 0 l = (extOk top ((l.take k).map (·.name)) m x && extsFitP top ((l.take (k + 1)).map (·.name)) x.kind (l.drop (k + 1))) := by
  rw [h]
  have hlt := (List.getElem?_eq_some_iff.1 hx).1
  have e : l.drop k = x :: l.drop (k + 1) := by rw [List.drop_eq_getElem_cons hlt, (List.getElem?_eq_some_iff.1 hx).2]
  rw [e, List.take_add_one, hx]
  simp [extsFitP]

set_option maxRecDepth 100000 in
set_option maxHeartbeats 2000000 in
theorem extsFit_any (w : World) (v : Value) (l : List ExtD) (top : Int) (h : ExtsV w v l) (hT : Tabs w) (hl : l.length ≤ 256) (hn : ∀ x ∈ l, x.name.length ≤ 1000) :
    Calls Tryz.prog 130 #[v, .int .i64 top] w fun e w' => e = .returned (.bool (extsFitP top [] 0 l)) ∧ Below w.heap.size w w' := by
  obtain ⟨A, cap, rfl, hsm⟩ := h.form
  have H := Lib.hid h
  have HT := Lib.hid hT
  have HNM := Lib.hid hn
  clear h hT hn
  have hmm := @run_makeMap Tryz.prog
  have hset0 : NameSet (w.alloc (.map #[] 0)) w.heap.size [] := World.ownsMap_made _ _ _ _
  have HI := Lib.hid (show ExtsR w w.heap.size top l (.int .i64 0) (.int .i64 0) (w.alloc (.map #[] 0)) from ⟨0, 0, rfl, rfl, Nat.zero_le _, rfl, hset0, (Below.refl _ w).alloc (Nat.le_refl _) _⟩)
  obtain ⟨n, hln⟩ : ∃ n, l.length = n := ⟨_, rfl⟩
  have HN := Lib.hid hln
  rw [hln] at H hsm hl ⊢
  clear hln hset0
  go_enter Tryz.func130, Tryz.ntmps130
  go_wp2_with fail
  go_loopw [12, 6] (fun i m wr => ExtsR w w.heap.size top l i m wr) (fun i _ _ => n - (RowKit.intOf i).toNat)
  case atStart => exact HI.out
  case round =>
    obtain ⟨k, m, rfl, rfl, hk, he, hset, hb⟩ := hrel
    rw [HN.out] at hk
    have HSet := Lib.hid hset
    have HB := Lib.hid hb
    by_cases hlt : k < n
    · obtain ⟨x, hx⟩ : ∃ x, l[k]? = some x := ⟨_, List.getElem?_eq_getElem (by rw [HN.out]; exact hlt)⟩
      obtain ⟨kb, off, rfl, hkb, g0, g1, g2, g3, g4⟩ := H.out.cells hx
      rw [← hb.cell (p := ⟨kb, off + k * 5, none⟩) hkb] at g0
      rw [← hb.cell (p := ⟨kb, off + k * 5 + 1, none⟩) hkb] at g1
      rw [← hb.cell (p := ⟨kb, off + k * 5 + 2, none⟩) hkb] at g2
      rw [← hb.cell (p := ⟨kb, off + k * 5 + 3, none⟩) hkb] at g3
      rw [← hb.cell (p := ⟨kb, off + k * 5 + 4, none⟩) hkb] at g4
      have HX := Lib.hid hx
      have HE := Lib.hid (extsFit_step hx he)
      have hnm : x.name.length ≤ maxLen := Nat.le_trans (HNM.out x (List.mem_of_getElem? hx)) (by unfold maxLen; omega)
      have hbx : Below wr.heap.size wr (wr.alloc (.cells #[.int .i64 x.kind, str x.name, .int .i64 x.cap.st, .int .i64 x.cap.num, str x.cap.text] 48)) := (Below.refl _ _).alloc (Nat.le_refl _) _
      have HBX := Lib.hid hbx
      have CF := Lib.hid (fun W => fits_any W x.cap x.kind top)
      have CA := Lib.hid (fun W (hs : NameSet W w.heap.size ((l.take k).map (·.name))) (hW : Tabs W) => add_any W w.heap.size ((l.take k).map (·.name)) x.name hs hW (by rw [List.length_map, List.length_take]; omega) hnm)
      clear he hset hb hx hkb hnm hbx hk
      by_cases h1 : x.kind < m
      · have HQ : Hid (extsFitP top [] 0 l = false) := Lib.hid (by rw [HE.out]; simp [extOk, h1])
        go_wp2_with fail
        go_ret
        exact ⟨ret_bool HQ.out.symm, HB.out.alloc HB.out.size _⟩
      · by_cases h2 : 2 < x.kind
        · have HQ : Hid (extsFitP top [] 0 l = false) := Lib.hid (by rw [HE.out]; simp [extOk, h2])
          go_wp2_with fail
          go_ret
          exact ⟨ret_bool HQ.out.symm, HB.out.alloc HB.out.size _⟩
        · cases hf : fitsP x.cap x.kind top with
          | false =>
            have HQ : Hid (extsFitP top [] 0 l = false) := Lib.hid (by rw [HE.out]; simp [extOk, hf])
            rw [hf] at CF
            clear hf
            go_wp2_with (go_at_call 146; refine (CF.out _).mono ?_; rintro e w2 ⟨rfl, hb2⟩; have HB2 := Lib.hid (HBX.out.trans (hb2.mono HBX.out.size)); clear hb2)
            go_ret
            exact ⟨ret_bool HQ.out.symm, HB.out.trans (HB2.out.mono HB.out.size)⟩
          | true =>
            rw [hf] at CF
            cases ha : addP ((l.take k).map (·.name)) x.name with
            | false =>
              have HQ : Hid (extsFitP top [] 0 l = false) := Lib.hid (by rw [HE.out]; simp only [extOk, ha]; simp)
              rw [ha] at CA
              clear hf ha
              go_wp2_with (first
                | (go_at_call 146; refine (CF.out _).mono ?_; rintro e w2 ⟨rfl, hb2⟩; have HB2 := Lib.hid (HBX.out.trans (hb2.mono HBX.out.size)); have hbx2 := (hb2.block wr.heap.size (by simp)).trans (World.alloc_heap_new wr _); have HX2 := Lib.hid hbx2; have q1 := cell_of_row w2 wr.heap.size 1 _ _ _ hbx2; simp only [List.getElem?_toArray, List.getElem?_cons_zero, List.getElem?_cons_succ] at q1; clear hb2 hbx2)
                | (go_at_call 140; refine (CA.out _ (HSet.out.same (HB2.out.block _ HSet.out.lt)) ((HT.out.below HB.out).below HB2.out)).mono ?_; rintro e w3 ⟨rfl, h3, h4⟩; have hbx3 := (h4.block wr.heap.size (Array.getElem?_eq_some_iff.1 HX2.out).1 (by have := HSet.out.lt; omega)).trans HX2.out; have r0 := cell_of_row w3 wr.heap.size 0 _ _ _ hbx3; simp only [List.getElem?_toArray, List.getElem?_cons_zero] at r0; have H3 := Lib.hid h3; have H4 := Lib.hid h4; clear h3 h4 hbx3 q1))
              go_ret
              exact ⟨ret_bool HQ.out.symm, (HB.out.trans (HB2.out.mono HB.out.size)).trans (H4.out.below (Nat.le_trans HB.out.size HB2.out.size) fun j hj => by omega)⟩
            | true =>
              have HQ : Hid (extOk top ((l.take k).map (·.name)) m x = true) := Lib.hid (by simp only [extOk, ha, hf]; simp [h1, h2])
              rw [ha] at CA
              clear hf ha
              go_wp2_with (first
                | (go_at_call 146; refine (CF.out _).mono ?_; rintro e w2 ⟨rfl, hb2⟩; have HB2 := Lib.hid (HBX.out.trans (hb2.mono HBX.out.size)); have hbx2 := (hb2.block wr.heap.size (by simp)).trans (World.alloc_heap_new wr _); have HX2 := Lib.hid hbx2; have q1 := cell_of_row w2 wr.heap.size 1 _ _ _ hbx2; simp only [List.getElem?_toArray, List.getElem?_cons_zero, List.getElem?_cons_succ] at q1; clear hb2 hbx2)
                | (go_at_call 140; refine (CA.out _ (HSet.out.same (HB2.out.block _ HSet.out.lt)) ((HT.out.below HB.out).below HB2.out)).mono ?_; rintro e w3 ⟨rfl, h3, h4⟩; have hbx3 := (h4.block wr.heap.size (Array.getElem?_eq_some_iff.1 HX2.out).1 (by have := HSet.out.lt; omega)).trans HX2.out; have r0 := cell_of_row w3 wr.heap.size 0 _ _ _ hbx3; simp only [List.getElem?_toArray, List.getElem?_cons_zero] at r0; have H3 := Lib.hid h3; have H4 := Lib.hid h4; clear h3 h4 hbx3 q1))
              refine ⟨⟨k + 1, x.kind, by go_num, rfl, by rw [HN.out]; exact hlt, by rw [HE.out, HQ.out, Bool.true_and], ?_, (HB.out.trans (HB2.out.mono HB.out.size)).trans (H4.out.below (Nat.le_trans HB.out.size HB2.out.size) fun j hj => by omega)⟩, by simp [RowKit.intOf]; omega⟩
              have e : (l.take (k + 1)).map (·.name) = (l.take k).map (·.name) ++ [x.name] := by rw [List.take_add_one, HX.out]; simp
              rw [e]
              exact H3.out
    · obtain rfl : k = n := by omega
      have HQ : Hid (extsFitP top [] 0 l = true) := Lib.hid (by rw [he, List.drop_of_length_le (Nat.le_of_eq HN.out)]; rfl)
      clear he hset hb
      go_wp2_with fail
      go_ret
      exact ⟨ret_bool HQ.out.symm, HB.out⟩
end
end Go.Proofs.YtcfgppjhgobboaaGreatDoor
