/-
  The cursor's address comes to its bytes: what every statement on package tparm begins with.
-/
import Derived.Test.YtapihomdfdhnnaaDoorTpCap
namespace Go.Proofs.YtapihomdfdhnnaaDoor
open Go.RowKit Go.Shelf Go.Lib
attribute [local go_sem] Oper.semAt_some

/-- what an operation of two numbers makes -/
def binP (v : UInt8) (x y : Int) : Int :=
  if v = 43 then w32 (x + y) else if v = 45 then w32 (x - y) else if v = 42 then w32 (x * y) else if v = 47 ∨ v = 109 then quoP v x y
  else if v = 61 then truthP (x == y) else if v = 62 then truthP (decide (y < x)) else if v = 60 then truthP (decide (x < y)) else 0
/-- what a sequence does -/
def ddE (it : ItemD) (m : MD) : Int × MD :=
  if it.verb = 105 then (0, incM m)
  else if it.verb = 112 then pushE' m (paramP m it.num)
  else if it.verb = 123 then pushE' m ⟨it.num, [], false⟩
  else if it.verb = 100 ∨ it.verb = 120 then writeE (popM m) (applyP it.form it.verb (topP m))
  else pushE' (popM (popM m)) ⟨binP it.verb (topP (popM m)).num (topP m).num, [], false⟩
abbrev fmtD : FmtD := ⟨false, false, false, false, false, 0, -1⟩
theorem itoa_sign {n : Int} (h : n < 0) : itoa n = 45 :: decDigits n.natAbs := by unfold itoa; rw [if_pos h]
theorem decDigits_head (u : Nat) : ∃ c t, decDigits u = c :: t ∧ c ≠ 45 := by
  have hl := decDigits_length u
  cases hd : decDigits u with
  | nil =>
    rw [hd] at hl
    have : 0 < nDigits u := by unfold nDigits; split <;> omega
    simp at hl
    omega
  | cons c t =>
    refine ⟨c, t, rfl, fun e => ?_⟩
    have hc : (decDigits u)[0]? = some c := by rw [hd]; rfl
    rw [decDigits_eq] at hc
    subst e
    simp at hc
    obtain ⟨a, _, hc⟩ := hc
    unfold dg at hc
    have := congrArg UInt8.toNat hc
    simp at this
    omega
theorem trim_itoa (n : Int) : trimPrefix (itoa n) [45] = decDigits n.natAbs := by
  by_cases h : n < 0
  · rw [itoa_sign h]
    simp [trimPrefix, hasPrefix]
  · have e : itoa n = decDigits n.natAbs := by unfold itoa; rw [if_neg h]; congr 1; omega
    rw [e]
    obtain ⟨c, t, hd, hc⟩ := decDigits_head n.natAbs
    rw [hd]
    have : hasPrefix (c :: t) [45] = false := by
      unfold hasPrefix
      rw [List.isPrefixOf_cons_cons]
      simp [Ne.symm hc]
    unfold trimPrefix
    rw [this]
    rfl
theorem apply_plain (n : Int) (t : List UInt8) (b : Bool) : applyP fmtD 100 ⟨n, t, b⟩ = itoa n := by
  have hd : digitsP fmtD 100 n = decDigits n.natAbs := by
    unfold digitsP
    rw [if_neg (by simp)]
    have : plainDigitsP 100 n = decDigits n.natAbs := by
      unfold plainDigitsP
      rw [if_neg (by decide), if_neg (by decide), if_neg (by decide), trim_itoa]
    rw [this]
    simp [fillP]
  unfold applyP
  rw [if_neg (by decide)]
  simp only [hd]
  unfold headP padP
  simp [fillP]
  have hp : prefixP fmtD 100 n (decDigits n.natAbs) = if n < 0 then [45] else [] := by
    unfold prefixP signP
    simp
  rw [hp]
  by_cases h : n < 0
  · rw [if_pos h, itoa_sign h]
    simp
    omega
  · rw [if_neg h]
    have e : itoa n = decDigits n.natAbs := by unfold itoa; rw [if_neg h]; congr 1; omega
    rw [e]
    simp
def begunS : List UInt8 := [27, 91, 37, 105, 37, 112, 49, 37, 100, 59, 37, 112, 50, 37, 100, 72]
def begunL : List ItemD := [⟨0, 0, 0, [27, 91], fmtZ⟩, ⟨2, 105, 0, [], fmtZ⟩, ⟨4, 112, 1, [], fmtZ⟩, ⟨7, 100, 0, [], fmtD⟩, ⟨9, 0, 0, [59], fmtZ⟩, ⟨10, 112, 2, [], fmtZ⟩, ⟨13, 100, 0, [], fmtD⟩, ⟨15, 0, 0, [72], fmtZ⟩]
theorem begun_parse : parseP begunS = .ok begunL := by kernel_rfl
theorem itoa_5 : itoa 5 = [53] := by
  have := itoa_nonneg 5
  rw [decDigits_one (by omega)] at this
  exact this
theorem itoa_10 : itoa 10 = [49, 48] := by
  have := itoa_nonneg 10
  rw [decDigits_two (by omega) (by omega)] at this
  exact this
theorem begun_runs (br : Nat → MD → Nat × MD) : runFrom br ddE begunL 10 0 ⟨[⟨4, [], false⟩, ⟨9, [], false⟩], [], [], 0, fun _ => prm0⟩ = ([27, 91, 53, 59, 49, 48, 72], 0, 0) := by
  simp [runFrom, begunL, ddE, isBranch, incM, incs, incP, pushE', pushM, paramP, writeE, popM, topP, apply_plain, itoa_5, itoa_10, wrap32]

theorem wrap_ok (n : Int) : -2147483648 ≤ wrap32 n ∧ wrap32 n ≤ 2147483647 := by unfold wrap32; omega
theorem push_ok {m : MD} {p : PrmD} (h : MOk m) (hp : NumOk p) : MOk (pushE' m p).2 := by
  unfold pushE'
  split
  · exact h
  · refine ⟨h.1, fun q hq => ?_⟩
    simp [pushM] at hq
    rcases hq with hq | rfl
    · exact h.2 q hq
    · exact hp
theorem pop_ok {m : MD} (h : MOk m) : MOk (popM m) := ⟨h.1, fun q hq => h.2 q (List.dropLast_subset _ hq)⟩
theorem write_ok {m : MD} {x : List UInt8} (h : MOk m) : MOk (writeE m x).2 := by
  unfold writeE
  split <;> exact h
theorem inc_ok {m : MD} (h : MOk m) : MOk (incM m) := by
  refine ⟨fun q hq => ?_, h.2⟩
  obtain ⟨i, hi⟩ := List.mem_iff_getElem?.1 hq
  have : (incs m.params.length m.params)[i]? = some q := hi
  rw [incs_at] at this
  split at this
  · obtain ⟨p, hp, rfl⟩ := Option.map_eq_some_iff.1 this
    unfold incP
    split
    · exact wrap_ok _
    · exact h.1 p (List.mem_of_getElem? hp)
  · exact h.1 q (List.mem_of_getElem? this)
theorem param_ok {m : MD} (h : MOk m) (d : Int) : NumOk (paramP m d) := by
  unfold paramP
  split
  · exact ⟨by decide, by decide⟩
  · rw [List.getD_eq_getElem?_getD]
    cases hq : m.params[(d - 1).toNat]? with
    | none => exact ⟨by decide, by decide⟩
    | some p => exact h.1 p (List.mem_of_getElem? hq)
theorem does_i {it : ItemD} (hv : it.verb = 105) : DoSpec it (ddE it) ∧ ∀ m, MOk m → MOk (ddE it m).2 := by
  have e : ddE it = fun m => (0, incM m) := by funext m; unfold ddE; rw [if_pos hv]
  rw [e]
  exact ⟨do_i it hv, fun m hm => inc_ok hm⟩
theorem does_p {it : ItemD} (hv : it.verb = 112) (d : Nat) (hn : it.num = (d : Int)) (h1 : 1 ≤ d) (h9 : d ≤ 9) : DoSpec it (ddE it) ∧ ∀ m, MOk m → MOk (ddE it m).2 := by
  have e : ddE it = fun m => pushE' m (paramP m (d : Int)) := by funext m; unfold ddE; rw [if_neg (by rw [hv]; decide), if_pos hv, hn]
  rw [e]
  exact ⟨do_p it hv d hn h1 h9, fun m hm => push_ok hm (param_ok hm _)⟩
theorem does_const {it : ItemD} (hv : it.verb = 123) (hn : -2147483648 ≤ it.num ∧ it.num ≤ 2147483647) : DoSpec it (ddE it) ∧ ∀ m, MOk m → MOk (ddE it m).2 := by
  have e : ddE it = fun m => pushE' m ⟨it.num, [], false⟩ := by funext m; unfold ddE; rw [if_neg (by rw [hv]; decide), if_neg (by rw [hv]; decide), if_pos hv]
  rw [e]
  exact ⟨do_const it hv, fun m hm => push_ok hm hn⟩
theorem does_d {it : ItemD} (hv : it.verb = 100) (hf : FOk it.form) : DoSpec it (ddE it) ∧ ∀ m, MOk m → MOk (ddE it m).2 := by
  have e : ddE it = fun m => writeE (popM m) (applyP it.form it.verb (topP m)) := by funext m; unfold ddE; rw [if_neg (by rw [hv]; decide), if_neg (by rw [hv]; decide), if_neg (by rw [hv]; decide), if_pos (.inl hv)]
  rw [e]
  exact ⟨do_d it hv hf, fun m hm => write_ok (pop_ok hm)⟩
theorem fmtD_ok : FOk fmtD := ⟨by decide, by decide, by decide⟩
theorem begun_does : Does begunL (fun i m => (i, m)) ddE := by
  refine ⟨fun it hit h0 hb => ?_, fun i it hi hb => ?_⟩
  · simp [begunL] at hit
    rcases hit with rfl | rfl | rfl | rfl | rfl | rfl | rfl | rfl
    · exact absurd rfl h0
    · exact does_i rfl
    · exact does_p rfl 1 rfl (by omega) (by omega)
    · exact does_d rfl fmtD_ok
    · exact absurd rfl h0
    · exact does_p rfl 2 rfl (by omega) (by omega)
    · exact does_d rfl fmtD_ok
    · exact absurd rfl h0
  · exfalso
    have hit := List.mem_of_getElem? hi
    simp [begunL] at hit
    rcases hit with rfl | rfl | rfl | rfl | rfl | rfl | rfl | rfl <;> simp [isBranch] at hb
theorem begun_texts : ∀ it ∈ begunL, it.text.length ≤ 4096 ∧ it.pos ≤ 4096 := by
  intro it hit
  simp [begunL] at hit
  rcases hit with rfl | rfl | rfl | rfl | rfl | rfl | rfl | rfl <;> simp
/-- two values in a new block -/
theorem prms_new {w : World} {ps : List PrmD} {o : Obj} {t : TypeId} (ho : o = .cells (prmVals ps).toArray t) : PrmsV (w.alloc o) (.slice (some ⟨w.heap.size, 0, none⟩) ps.length ps.length) ps :=
  ⟨_, _, rfl, Nat.le_refl _, prmVals_length ps, (fun e => by cases e), fun _ => ⟨w.heap.size, 0, rfl, by simp, fun j u hu => by
    rw [Nat.zero_add, cell_of_row _ _ j _ _ _ (by rw [alloc_new, ho])]
    simpa using hu⟩⟩
theorem run_new {w w1 W : World} {cb : Nat} {v : Value} {s : List UInt8} {l : List ItemD} {vb bm : Nat} {vs : UInt8 → PrmD} {ps : List PrmD} {o : Obj} {ty : TypeId} (hc : CapAt w1 w.heap.size cb v s) (hb1 : Below w.heap.size w w1) (hb : Below w1.heap.size w1 W) (hv : VarsAt W vb bm vs) (hbm : w.heap.size ≤ bm) (hlen : s.length ≤ 4096) (hps : parseP s = .ok l) (ho : o = .cells (prmVals ps).toArray ty) (h1 : 0 < ps.length) (h9 : ps.length ≤ 9) (hmay : ps.any noValP = false) (hnum : ∀ p ∈ ps, NumOk p) (hp : Pow w)
    {br : Nat → MD → Nat × MD} {dd : ItemD → MD → Int × MD} (hd : Does l br dd) (htx : ∀ it ∈ l, it.text.length ≤ 4096 ∧ it.pos ≤ 4096) :
    Calls Tryd.prog 7 #[.pointer (some ⟨cb, 0, none⟩), .pointer (some ⟨vb, 0, none⟩), .slice (some ⟨W.heap.size, 0, none⟩) ps.length ps.length] (W.alloc o) fun e w' => e = .returned (.tuple #[str (runFrom br dd l (l.length + 2) 0 ⟨ps, [], [], 0, vs⟩).1, .int .i64 (runFrom br dd l (l.length + 2) 0 ⟨ps, [], [], 0, vs⟩).2.1, .int .i64 (runFrom br dd l (l.length + 2) 0 ⟨ps, [], [], 0, vs⟩).2.2]) ∧ Below w.heap.size w w' := by
  obtain ⟨A1, c1, rfl⟩ := (hc.items l hlen hps).1.form
  have hbW : Below w1.heap.size w1 (W.alloc o) := hb.alloc hb.size o
  have hbw : Below w.heap.size w (W.alloc o) := hb1.trans (hbW.mono hb1.size)
  refine (cap_run (W.alloc o) w.heap.size cb s l A1 c1 (hc.below hbW) hlen hps vb bm vs (hv.below (alloc_one _ _)) ps _ _ (prms_new ho) h1 h9 hmay hnum (hp.below hbw) br dd hd htx).mono ?_
  rintro e w' ⟨rfl, ht⟩
  exact ⟨rfl, hbw.trans (ht.below hbw.size fun k hk => by omega)⟩
def BegunPost (w : World) (e : Ending) (w' : World) : Prop := e = .returned (.bool true) ∧ Below w.heap.size w w'
theorem run_begun {w w1 w2 w3 w4 : World} {cb : Nat} {v : Value} (h1 : CapAt w1 w.heap.size cb v begunS ∧ Below w.heap.size w w1) (h2 : VarsAt w2 (w1.heap.size + 1) w1.heap.size (fun _ => prm0) ∧ Below w1.heap.size w1 w2) (h3 : Below w2.heap.size w2 w3) (h4 : Below w3.heap.size w3 w4) (hp : Pow w) :
    Calls Tryd.prog 7 #[.pointer (some ⟨cb, 0, none⟩), .pointer (some ⟨w1.heap.size + 1, 0, none⟩), .slice (some ⟨w4.heap.size, 0, none⟩) 2 2] (w4.alloc (.cells #[.int .i32 4, .string ⟨#[]⟩, .bool false, .int .i32 9, .string ⟨#[]⟩, .bool false] 32)) fun e w' => e = .returned (.tuple #[.string ⟨#[27, 91, 53, 59, 49, 48, 72]⟩, .int .i64 0, .int .i64 0]) ∧ Below w.heap.size w w' := by
  have h34 : Below w2.heap.size w2 w4 := h3.trans (h4.mono h3.size)
  have := run_new (ps := [⟨4, [], false⟩, ⟨9, [], false⟩]) (o := .cells #[.int .i32 4, .string ⟨#[]⟩, .bool false, .int .i32 9, .string ⟨#[]⟩, .bool false] 32) (ty := 32) h1.1 h1.2 (h2.2.trans (h34.mono h2.2.size)) (h2.1.below h34) h1.2.size (by decide) begun_parse rfl (by decide) (by decide) rfl (fun p hp => by simp at hp; rcases hp with rfl | rfl <;> exact ⟨by decide, by decide⟩) hp begun_does begun_texts
  rw [show begunL.length + 2 = 10 from rfl, begun_runs] at this
  exact this
set_option maxRecDepth 100000 in
set_option maxHeartbeats 8000000 in
theorem begun_any (w : World) (hp : Pow w) : Calls Tryd.prog 4 #[] w (BegunPost w) := by
  have CN : Hid (Calls Tryd.prog 5 #[str begunS] w (NewPost w begunS)) := Lib.hid (new_any begunS w)
  have CV := Lib.hid newVars_any
  have C4 := Lib.hid (fun W => num_any 4 (by omega) (by omega) W)
  have C9 := Lib.hid (fun W => num_any 9 (by omega) (by omega) W)
  have HP := Lib.hid hp
  clear hp
  unfold NewPost at CN
  go_enter Tryd.func4, Tryd.ntmps4
  go_wp2_with (first
    | (go_at_call 5; refine (CN.out).mono ?_; rintro e w1 ⟨cb, v, rfl, hc1, hb1⟩; have H1 := Lib.hid (And.intro hc1 hb1); clear hc1 hb1)
    | (go_at_call 8; refine (CV.out _).mono ?_; rintro e w2 ⟨rfl, hv2, hb2⟩; have H2 := Lib.hid (And.intro hv2 hb2); clear hv2 hb2)
    | (go_at_call 11; with_reducible refine (C4.out _).mono ?_; rintro e w3 ⟨rfl, hb3⟩; have H3 := Lib.hid hb3; clear hb3)
    | (go_at_call 11; with_reducible refine (C9.out _).mono ?_; rintro e w4 ⟨rfl, hb4⟩; have H4 := Lib.hid hb4; clear hb4)
    | (go_at_call 7; refine (run_begun H1.out H2.out H3.out H4.out HP.out).mono ?_; rintro e w5 ⟨rfl, hb5⟩; have H5 := Lib.hid hb5; clear hb5))
  go_ret
  exact ⟨rfl, H5.out⟩
end Go.Proofs.YtapihomdfdhnnaaDoor
