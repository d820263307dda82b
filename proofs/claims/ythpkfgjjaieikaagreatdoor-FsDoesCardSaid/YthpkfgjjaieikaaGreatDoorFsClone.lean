/-
  What Clone of package simfs returns: a file system of its own memory, in the same state.
-/
import Derived.Test.YthpkfgjjaieikaaGreatDoorFsSet
import Derived.Maps.Ext
namespace Go.Proofs.YthpkfgjjaieikaaGreatDoor
open Go.RowKit Go.Shelf Go.Lib Go.Maps

/-- the same bytes at each path -/
def SameFiles (es es' : List Ent) : Prop := ∀ q, (findE es' q).map (·.data) = (findE es q).map (·.data)
def ClonePost (w : World) (es : List Ent) (s : St) (e : Ending) (w' : World) : Prop :=
  ∃ b' bm' es', e = .returned (.pointer (some ⟨b', 0, none⟩)) ∧ FsAt w' (fun k => w.heap.size ≤ k) b' bm' es' s ∧ SameFiles es es' ∧ es'.length ≤ es.length ∧ Below w.heap.size w w'

theorem store_any (w : World) (b i : Nat) (x y : Int) (h : w.cell? ⟨b, i, none⟩ = some (.int .i64 x)) (hf : w.frozen? ⟨b, i, none⟩ = false) :
    Calls Tryz.prog 110 #[.pointer (some ⟨b, i, none⟩), .int .i64 y] w fun e w' => e = .returned (.tuple #[]) ∧ w' = w.setCell ⟨b, i, none⟩ (.int .i64 y) := by
  have hst := run_call_store (P := Tryz.prog) Tryz.func167 (by kernel_rfl) (by kernel_rfl) (by kernel_rfl) (by kernel_rfl) (k := .i64) (y := y) h hf
  go_enter Tryz.func110, Tryz.ntmps110
  go_wp2
  go_end0
  exact ⟨rfl, rfl⟩

theorem findE_del (p : List UInt8) (es : List Ent) (q : List UInt8) : findE (delE p es) q = if q = p then none else findE es q := by
  unfold findE delE
  rw [List.find?_filter]
  split
  · next e =>
    subst e
    rw [List.find?_eq_none]
    intro x _
    simp
  · next e =>
    congr 1
    funext x
    by_cases hx : x.path = q
    · simp [hx, e]
    · simp [hx]
theorem findE_ins (x : Ent) (es : List Ent) (h : ∀ y ∈ es, y.path ≠ x.path) (q : List UInt8) : findE (insE x es) q = if q = x.path then some x else findE es q := by
  induction es with
  | nil =>
    simp only [insE, findE, List.find?_cons, List.find?_nil]
    by_cases hq : q = x.path
    · simp [hq]
    · have hq' : (x.path == q) = false := by simpa using Ne.symm hq
      simp [hq, hq']
  | cons y r ih =>
    have hy := h y List.mem_cons_self
    have ih' := ih fun z hz => h z (List.mem_cons_of_mem _ hz)
    simp only [insE]
    split
    · simp only [findE, List.find?_cons]
      by_cases hq : q = x.path
      · simp [hq]
      · have hq' : (x.path == q) = false := by simpa using Ne.symm hq
        simp [hq, hq']
    · by_cases hyq : y.path = q
      · have hqx : ¬ q = x.path := fun e => hy (hyq.trans e)
        simp [findE, hyq, hqx]
      · have e1 : findE (y :: insE x r) q = findE (insE x r) q := by simp [findE, hyq]
        have e2 : findE (y :: r) q = findE r q := by simp [findE, hyq]
        rw [e1, e2, ih']
theorem findE_put (x : Ent) (es : List Ent) (q : List UInt8) : findE (putE x es) q = if q = x.path then some x else findE es q := by
  unfold putE
  rw [findE_ins x _ (fun y hy => (mem_delE.1 hy).2), findE_del]
  split <;> simp_all

/-- a row of new memory comes into the map -/
theorem put_fresh {w5 w6 : World} {FP : Nat → Prop} {b bm : Nat} {es : List Ent} {s : St} {p d : List UInt8} {v : Value} (h : FsAt w5 FP b bm es s) (hrow : Row w5 v d) (hFP : ∀ k, v.ownBlock = some k → FP k) (hnew : ∀ k, v.ownBlock = some k → ∀ y ∈ es, y.val.ownBlock ≠ some k)
    (hm : w6.ownsMap Tryz.prog 9 heldR bm (putE ⟨p, v, d⟩ es).length (toD (putE ⟨p, v, d⟩ es))) (ht : Touch (fun k => k = bm) w5 w6) (hp : p.length ≤ 1024) (hd : d.length ≤ 1048576) : FsAt w6 FP b bm (putE ⟨p, v, d⟩ es) s := by
  obtain ⟨mes, clock, hmo, _⟩ := h.files.map
  have keep : ∀ {u c}, Row w5 u c → Row w6 u c := fun {u c} hr => hr.same fun k hk => ht.block k (hr.block k hk) fun e => by
    obtain ⟨cur, hc⟩ := row_cells hr k hk
    rw [e, hmo] at hc; cases hc
  refine ⟨(ht.block b h.lt h.two).trans h.cells, h.own, h.ownm, hm, fun x hx => ?_, fun x hx y hy hne => ?_, fun x hx => ?_⟩
  · rcases mem_putE.1 hx with rfl | ⟨hx, _⟩
    · exact ⟨keep hrow, hFP⟩
    · exact ⟨keep (h.files.rows x hx).1, (h.files.rows x hx).2⟩
  · rcases mem_putE.1 hx with rfl | ⟨hx, hxp⟩ <;> rcases mem_putE.1 hy with rfl | ⟨hy, hyp⟩
    · exact absurd rfl hne
    · cases hv : v.ownBlock with
      | none => exact .inl rfl
      | some k => exact .inr fun e => hnew k hv y hy e.symm
    · cases hv : x.val.ownBlock with
      | none => exact .inl rfl
      | some k => exact .inr fun e => hnew k e.symm x hx hv
    · exact h.files.apart x hx y hy hne
  · rcases mem_putE.1 hx with rfl | ⟨hx, _⟩
    · exact ⟨hp, hd⟩
    · exact h.files.small x hx

/-- between two rounds: of the files that have come the clone has the same -/
def CloneRel (w : World) (es : List Ent) (bm r bc bmc : Nat) (wr : World) : Prop :=
  ∃ left cnt es', wr.ranges Tryz.prog 9 heldR bm r es.length (toD es) left cnt ∧ FsAt wr (fun k => w.heap.size ≤ k ∧ k ≠ r) bc bmc es' st0 ∧ Below w.heap.size w wr ∧ es'.length + cnt ≤ es.length ∧
    (∀ q, (findE es' q).map (·.data) = if left (.string q) then none else (findE es q).map (·.data))

theorem HAG_put {es es' : List Ent} {left : Lit → Bool} {xp xd : List UInt8} {xv v5 : Value} {q : List UInt8} (h : ∀ q, (findE es' q).map (·.data) = if left (.string q) then none else (findE es q).map (·.data)) (hx : findE es xp = some ⟨xp, xv, xd⟩) :
    (if q = xp then some (⟨xp, v5, xd⟩ : Ent) else findE es' q).map (·.data) = if (left (.string q) && !(Lit.string q).sameKey (.string xp)) = true then none else (findE es q).map (·.data) := by
  by_cases hq : q = xp
  · subst hq
    simp [Lit.sameKey, hx]
  · have hk : (Lit.string q).sameKey (.string xp) = false := by simpa [Lit.sameKey] using hq
    rw [if_neg hq, h q, hk]
    simp

set_option maxRecDepth 100000 in
set_option maxHeartbeats 2000000 in
theorem clone_fs (w : World) (FP : Nat → Prop) (b bm : Nat) (es : List Ent) (s : St) (h : FsAt w FP b bm es s) (hlen : es.length ≤ 1000000) :
    Calls Tryz.prog 49 #[.pointer (some ⟨b, 0, none⟩)] w (ClonePost w es s) := by
  have CU := Lib.hid (usable_some w b bm h.cell0)
  have HF := Lib.hid h
  have HLEN := Lib.hid hlen
  clear h hlen
  go_enter Tryz.func49, Tryz.ntmps49
  go_wp2_with (first
    | (go_at_call 50; refine (CU.out).mono ?_; rintro e w1 ⟨rfl, rfl⟩)
    | (go_at_call 7; refine (new_any _).mono ?_; rintro e w1 ⟨bc, bmc, rfl, hF1, hb1⟩; have c0 := (HF.out.below hb1).cell0; have HF1 := Lib.hid hF1; have HB1 := Lib.hid hb1; clear hF1 hb1)
    | (at_range; refine wpList_range_own _ rfl _ 68 rfl 9 30 law Tryz.underlying68 _ bm es.length (toD es) rfl (HF.out.below HB1.out).files.map ?_; intro w0 hrg0 hg0 hs0))
  have hB0 : Below w.heap.size w w0 := HB1.out.grown hg0 HB1.out.size (fun k e => by cases e)
  have hFc0 : FsAt w0 (fun k => w.heap.size ≤ k ∧ k ≠ w1.heap.size) bc bmc [] st0 := (HF1.out.tight.more (FP' := fun k => w.heap.size ≤ k ∧ k ≠ w1.heap.size) fun k hk => ⟨hk.1, by have := hk.2; omega⟩).below (Touch.of_grown (T := fun _ => False) hg0 (fun k e => by cases e) |>.below (Nat.le_refl _) fun k hk => hk.elim)
  have hrel0 : CloneRel w es bm w1.heap.size bc bmc w0 := by
    refine ⟨_, _, [], hrg0, hFc0, hB0, by rw [toD_size]; simp, fun q => ?_⟩
    rw [toD_has]
    cases hq : findE es q <;> simp [findE]
  have hbc : w.heap.size ≤ bc := HF1.out.own
  have hbmc : w.heap.size ≤ bmc := HF1.out.ownm
  have hbm1 : bm < w.heap.size := HF.out.files.map.lt
  have hr1 : w.heap.size ≤ w1.heap.size := HB1.out.size
  have hbm2 : bmc < w1.heap.size := HF1.out.files.map.lt
  have HN := Lib.hid (And.intro hbc (And.intro hbmc (And.intro hbm1 (And.intro hr1 hbm2))))
  have HR := Lib.hid hrel0
  clear hrg0 hg0 hs0 hB0 hFc0 hrel0 hbc hbmc hbm1 hr1 hbm2 c0
  go_frame
  go_loopw [4, 5] (fun _ _ wr => CloneRel w es bm w1.heap.size bc bmc wr) (fun _ _ wr => wr.rangeLeft bm w1.heap.size)
  case atStart => exact HR.out
  case round =>
    obtain ⟨left, cnt, es', hrg, hFc, hB, hcnt, hag⟩ := hrel
    have HAG := Lib.hid hag
    have HB := Lib.hid hB
    have HG := Lib.hid hrg
    have HFC := Lib.hid hFc
    have HCNT := Lib.hid hcnt
    clear hag hB hrg hFc hcnt
    go_wp2_with (at_next; refine wpList_next_ranges _ rfl _ rfl 9 law heldR str id strInv heldInv bm w1.heap.size es.length _ _ _ rfl HG.out ?_ ?_)
    · intro hc0 hl0
      have HL := Lib.hid hl0
      clear hc0 hl0
      have hFo := HF.out.below HB.out
      have a1 := hFo.cell1
      have a2 := hFo.cell2
      have a3 := hFo.cell3
      have a4 := hFo.cell4
      have a5 := hFo.cell5
      have b1 := HFC.out.cell1
      have b2 := HFC.out.cell2
      have b3 := HFC.out.cell3
      have b4 : wr.cell? ⟨bc, 4, none⟩ = some (.int .i64 0) := HFC.out.cell4
      have b5 := HFC.out.cell5
      have g1 := HFC.out.frozen 1
      have g2 := HFC.out.frozen 2
      have g3 := HFC.out.frozen 3
      have g4 := HFC.out.frozen 4
      have g5 := HFC.out.frozen 5
      clear hFo
      have hbb : b ≠ bc := fun e => by have h1 := HF.out.lt; have h2 := HN.out.1; omega
      have hbb2 : bc ≠ b := Ne.symm hbb
      go_wp2_with fail
      go_region_law (first
        | (go_simp; go_at_call 51; refine (load_any _ b 4 s.calls (by go_simp)).mono ?_; rintro e w' ⟨rfl, rfl⟩)
        | (go_simp; go_at_call 110; refine (store_any _ bc 4 0 s.calls (by go_simp) (by go_simp)).mono ?_; rintro e w' ⟨rfl, rfl⟩))
      all_goals
        go_wp2_with fail
        go_ret
        obtain ⟨n1, n2, n3, n4, n5⟩ := HN.out
        refine ⟨bc, bmc, es', rfl, ((((((HFC.out.set1 s.left).set2 s.kind).set3 s.keep).set4 s.calls).set5 s.down).drew).more (fun k hk => hk.1), ?_, Nat.le_trans (Nat.le_add_right _ _) HCNT.out, ?_⟩
        · intro q
          rw [HAG.out q, if_neg (by rw [HL.out]; simp)]
        · exact (((((HB.out.setCell (p := ⟨bc, 1, none⟩) n1 _).setCell (p := ⟨bc, 2, none⟩) n1 _).setCell (p := ⟨bc, 3, none⟩) n1 _).setCell (p := ⟨bc, 4, none⟩) n1 _).setCell (p := ⟨bc, 5, none⟩) n1 _).drew
    · intro q c kl yd yp w2 cnt2 hkey hlk hv hat hrg2 hlt hg2 hs2 hen
      obtain ⟨q', eq, rfl, _⟩ := Maps.keyOf_str Tryz.underlying9 hkey
      obtain rfl : q = q' := str_inj eq
      obtain ⟨x, hfx, rfl⟩ : ∃ x, findE es q = some x ∧ c = x.val := by
        have h1 := hat (.held (.slice none 0 0))
        have h2 := hat (.lit (.bool true))
        rw [toD_at] at h1 h2
        cases hf : findE es q with
        | none => rw [hf] at h1 h2; rw [← h2] at h1; cases h1
        | some x =>
          rw [hf] at h1
          refine ⟨x, rfl, ?_⟩
          injection hv with hv
          injection hv with hv _
          rw [← hv] at h1
          injection h1 with h1
          exact h1.symm
      obtain ⟨hx, rfl⟩ := findE_mem hfx
      have HN' := HN.out
      have hB2 : Below w.heap.size w w2 := HB.out.grown hg2 HB.out.size (fun k e => by cases e; exact HN'.2.2.2.1)
      have hFc2 : FsAt w2 (fun k => w.heap.size ≤ k ∧ k ≠ w1.heap.size) bc bmc es' st0 := HFC.out.same fun k hk hF => hg2.block k hk fun e => hF.2 (by injection e)
      have hsm := (HF.out.files.small x hx)
      have CCl := Lib.hid (fun (W : World) (hW : Below w.heap.size w W) => clone_any W x.val x.data ((HF.out.below hW).files.rows x hx).1 (HF.out.files.small x hx).2)
      have c2 := hFc2.cell0
      have hrlt : w1.heap.size < w2.heap.size := by
        obtain ⟨_, _, _, _, _, _, _, _, _, hit, _⟩ := hrg2
        exact (Array.getElem?_eq_some_iff.1 hit).1
      have HRLT := Lib.hid hrlt
      have HSM := Lib.hid hsm
      have HK := Lib.hid (keyStr x.path (Nat.le_trans hsm.1 (by unfold maxLen; omega)))
      have HB2 := Lib.hid hB2
      have HFC2 := Lib.hid hFc2
      have HRG := Lib.hid hrg2
      have HX := Lib.hid hfx
      have HXM := Lib.hid hx
      have HLT := Lib.hid hlt
      obtain ⟨A0, cap0, hsh⟩ := row_shape ((HF.out.below hB2).files.rows x hx).1
      clear hkey hlk hv hat hrg2 hlt hg2 hs2 eq hB2 hFc2 hsm hfx hx HN' hrlt
      obtain ⟨xp, xv, xd⟩ := x
      simp only at hsh
      subst hsh
      go_wp2_with fail
      go_region_law (go_simp; go_at_call 93; refine (CCl.out _ HB2.out.drew).mono ?_; rintro e w5 ⟨v5, rfl, ho5, hb5⟩; have hFc5 := HFC2.out.drew.below hb5; have c5 := hFc5.cell0; obtain ⟨w6, hrun6, hm6, hg6⟩ := run_map_put w5 bmc es' ⟨xp, v5, xd⟩ hFc5.files.map (by have := HCNT.out; have := HLEN.out; omega) HK.out; have HFC5 := Lib.hid hFc5; have HO5 := Lib.hid ho5; have HB5 := Lib.hid hb5; have HM6 := Lib.hid hm6; have HG6 := Lib.hid hg6; clear hFc5 ho5 hb5 hm6 hg6)
      all_goals
        have hT : Touch (fun k => k = bmc) w2 w6 := ((Touch.refl _ w2).drew.trans (Touch.of_below HB5.out)).trans (Touch.of_grown HG6.out fun k hk => by cases hk; rfl)
        have hg26 : w2.grownBy w6 (some bmc) := ⟨hT.os, hT.tape, hT.output, hT.size, fun k hk hne => hT.block k hk fun e => hne (by rw [e])⟩
        have hd2 : w2.drew.heap.size = w2.heap.size := rfl
        have hFc6 := put_fresh HFC5.out (own_base HO5.out (Nat.zero_le _)) (fun k hk => by
          have := (HO5.out.lt k hk).1
          have h1 := HRLT.out
          have h2 := HB2.out.size
          rw [hd2] at this
          exact ⟨by omega, by omega⟩) (fun k hk y hy e => by
          have h1 := (HO5.out.lt k hk).1
          have h2 := (HFC2.out.files.rows y hy).1.block k e
          rw [hd2] at h1
          omega) HM6.out (Touch.of_grown HG6.out fun k hk => by cases hk; rfl) HSM.out.1 HSM.out.2
        have HT := Lib.hid hT
        have HG26 := Lib.hid hg26
        have HFC6 := Lib.hid hFc6
        clear hT hg26 hFc6 hd2
        go_roundw
        case rel =>
          obtain ⟨n1, n2, n3, n4, n5⟩ := HN.out
          have hrg6 := HRG.out.kept HG26.out (fun e => by injection e with e; omega) (fun e => by injection e with e; omega)
          refine ⟨_, _, _, _, _, _, _, _, _, _, _, _, _, _, ⟨_, cnt2, _, hrg6, HFC6.out, HB2.out.trans (HT.out.below HB2.out.size fun k hk => by rw [hk]; exact n2), ?_, fun q' => ?_⟩, rfl⟩
          · have h1 := length_putE ⟨xp, v5, xd⟩ es'
            have h2 := HLT.out
            have h3 := HCNT.out
            omega
          · rw [findE_put, HAG_put HAG.out HX.out]
        case measure =>
          obtain ⟨n1, n2, n3, n4, n5⟩ := HN.out
          have hrg6 := HRG.out.kept HG26.out (fun e => by injection e with e; omega) (fun e => by injection e with e; omega)
          rw [hrg6.left_eq, HG.out.left_eq]
          exact HLT.out

end Go.Proofs.YthpkfgjjaieikaaGreatDoor
