/-
  How the document's file system loses a file and gets one. Nothing is assumed.
-/
import Derived.Test.YthpkfgjjaieikaaGreatDoorFsSrc
import Derived.Deep.RegionLaw
import Derived.Deep.RegionWith
import Derived.Outline
namespace Go.Proofs.YthpkfgjjaieikaaGreatDoor
open Go.RowKit Go.Shelf Go.Lib Go.Maps

section
variable {w : World} {FR : Nat → Prop} {rb : Nat} {v : Value} {fs : List Ent} {r : RSt}
theorem data_one (h : RefV w FR rb v fs r) : ∀ x ∈ fs, x.val.oneCell' = true := fun x hx => by
  obtain ⟨A, cap, e, _⟩ := own_form (h.datas x hx).1
  rw [e]
  rfl
def DropPost (w : World) (FR : Nat → Prop) (rb : Nat) (fs : List Ent) (r : RSt) (e : Ending) (w' : World) : Prop :=
  ∃ v', e = .returned (.tuple #[]) ∧ RefV w' (fun k => FR k ∨ w.heap.size ≤ k) rb v' fs r ∧ Touch (fun k => k = rb) w w'

set_option maxRecDepth 100000 in
set_option maxHeartbeats 1000000 in
theorem refDrop_any (h : RefV w FR rb v fs r) (hrise : Rising fs) {p : List UInt8} {x : Ent} (hx : findE fs p = some x) :
    Calls Tryz.prog 103 #[.pointer (some ⟨rb, 0, none⟩), str p] w (DropPost w FR rb (delE p fs) r) := by
  have CF := refFind_any h p
  have hi : findR fs p = (idxE fs p : Int) := by
    unfold findR
    rw [if_pos (by rw [hx]; rfl)]
  rw [hi] at CF
  have hdrop := drop_is hrise hx
  obtain ⟨hlt, _⟩ := idx_some hx
  generalize idxE fs p = i at CF hdrop hlt
  obtain ⟨A, cap, rfl, hcap, _⟩ := own_form h.row
  have hn := h.short
  have hnone := World.ownsRow_nil w w.heap.size 94 2
  obtain ⟨v1, w1, run1, own1, g1, _⟩ := append_files w w.heap.size (.slice none 0 0) [] hnone (fs.take i) (m := i) (by rw [List.length_take]; omega) (by rw [fileVals_take]; exact own_head h.row (Nat.le_of_lt hlt)) (fun y hy => data_one h y (List.mem_of_mem_take hy)) (by rw [List.length_take]; simp; omega) (Nat.le_refl _) 26
  rw [List.nil_append] at own1
  have B1 : Below w.heap.size w w1 := grown_below g1 (Nat.le_refl _) (fun k e => by cases e)
  have s2 := (own_tail h.row (i := i + 1) (by omega)).below B1
  rw [← fileVals_drop] at s2
  obtain ⟨v2, w2, run2, own2, g2, _⟩ := append_files w1 w.heap.size v1 (fs.take i) own1 (fs.drop (i + 1)) (m := fs.length - (i + 1)) (by rw [List.length_drop]) s2 (fun y hy => data_one h y (List.mem_of_mem_drop hy)) (by rw [List.length_take, List.length_drop]; omega) B1.size 26
  rw [hdrop] at own2
  have B2 : Below w.heap.size w w2 := B1.trans (grown_below g2 B1.size fun k e => (own1.lt k e).1)
  have c0 := h.cell0
  have c0' : w1.cell? ⟨rb, 0, none⟩ = some (.slice A fs.length cap) := (B1.cell (p := ⟨rb, 0, none⟩) h.lt).trans c0
  have f2 : w2.frozen? ⟨rb, 0, none⟩ = false := (B2.frozen (p := ⟨rb, 0, none⟩) h.lt).trans (h.frozen 0)
  have c2 : w2.cell? ⟨rb, 0, none⟩ = some (.slice A fs.length cap) := (B2.cell (p := ⟨rb, 0, none⟩) h.lt).trans c0
  have sh := slice_head (P := Tryz.prog) 26 94 Tryz.underlying26 2 size_file A fs.length cap i (by omega)
  have st := slice_tail (P := Tryz.prog) 26 94 Tryz.underlying26 2 size_file A fs.length cap (i + 1) (by omega)
  have hF := h.relist (fs2 := delE p fs) B2 own2 (fun y hy => .inl (mem_delE.1 hy).1) (Nat.le_trans (length_delE _ _) h.short)
  have HF := Lib.hid hF
  have HB2 := Lib.hid B2
  have CF := Lib.hid CF
  have hv1 : ∃ A1 cap1, v1 = .slice A1 (fs.take i).length cap1 := by obtain ⟨A1, cap1, e, _⟩ := own_form own1; exact ⟨A1, cap1, e⟩
  have hv2 : ∃ A1 cap1, v2 = .slice A1 (delE p fs).length cap1 := by obtain ⟨A1, cap1, e, _⟩ := own_form own2; exact ⟨A1, cap1, e⟩
  obtain ⟨A1, cap1, rfl⟩ := hv1
  obtain ⟨A2, cap2, rfl⟩ := hv2
  clear h hi hdrop hrise hx hnone own1 g1 B1 s2 own2 g2 B2 hF
  generalize tailA A cap (i + 1) 2 = A3 at st run2
  generalize (fs.take i).length = n1 at run1 run2
  generalize (delE p fs).length = n2 at run2 HF
  push_cast at st
  go_enter Tryz.func103, Tryz.ntmps103
  have hT := Tryz.underlying26
  have tok1 : True := trivial
  go_wp2_with (first
    | (go_at_call 100; refine (CF.out).mono ?_; rintro e w' ⟨rfl, rfl⟩)
    | (at_builtin; have tk := tok1; clear tk; refine wpList_append_run run1 (by rfl) _ _ (by rfl) (by rfl) (by rfl) (by rfl) ?_; clear tok1)
    | (at_builtin; refine wpList_append_run run2 (by rfl) _ _ (by rfl) (by rfl) (by rfl) (by rfl) ?_)
    | (refine wpList_slice_run sh hT (by rfl) _ _ _ (by rfl) (by rfl) (by rfl) (by rfl) ?_)
    | (refine wpList_slice_run st hT (by rfl) _ _ _ (by rfl) (by rfl) (by rfl) (by rfl) ?_))
  go_end0
  exact ⟨_, rfl, HF.out, (Touch.of_below HB2.out).trans (touch_rb _ _ _ _)⟩

def PutRPost (w : World) (FR : Nat → Prop) (rb : Nat) (fs : List Ent) (r : RSt) (p c : List UInt8) (e : Ending) (w' : World) : Prop :=
  ∃ v' dv, e = .returned (.tuple #[]) ∧ RefV w' (fun k => FR k ∨ w.heap.size ≤ k) rb v' (putE ⟨p, dv, c⟩ fs) r ∧ Touch FR w w'
theorem below_drew {B : Nat} {w w1 : World} (h : Below B w.drew w1) : Below B w w1 := ⟨h.os, h.tape, h.output, h.size, h.block⟩

set_option maxRecDepth 100000 in
set_option maxHeartbeats 1000000 in
theorem refPut_found (h : RefV w FR rb v fs r) (hrise : Rising fs) {p c : List UInt8} {u : Value} {x : Ent} (hx : findE fs p = some x) (hu : Reads w u c) (hc : c.length ≤ 1048576) :
    Calls Tryz.prog 105 #[.pointer (some ⟨rb, 0, none⟩), str p, u] w (PutRPost w FR rb fs r p c) := by
  have CF := refFind_any h p
  have hi : findR fs p = (idxE fs p : Int) := by
    unfold findR
    rw [if_pos (by rw [hx]; rfl)]
  rw [hi] at CF
  have hxp := (findE_mem hx).2
  obtain ⟨hlt, hxi⟩ := idx_some hx
  have hset := fun dv => set_is hrise (y := ⟨p, dv, c⟩) hx rfl
  have hxi' : fs[idxE fs p]? = some x := by rw [← hxi]; exact List.getElem?_eq_getElem hlt
  generalize idxE fs p = i at CF hset hlt hxi'
  have hn := h.short
  obtain ⟨A, cap, rfl, hcap, _, hat⟩ := h.form
  obtain ⟨g, rfl, hg, _, cd, fd⟩ := hat i x hxi'
  have hnone := World.ownsRow_nil w.drew w.heap.size 5 1
  obtain ⟨v1, w1, run1, own1, g1, _⟩ := append_bytes w.drew w.heap.size (.slice none 0 0) [] hnone c hu (by simp; omega) (Nat.le_refl _) 30
  rw [List.nil_append] at own1
  have B1 : Below w.heap.size w w1 := below_drew (grown_below g1 (Nat.le_refl _) (fun k e => by cases e))
  have c0 := h.cell0
  have c0' : w1.cell? ⟨rb, 0, none⟩ = some (.slice (some ⟨g, 0, none⟩) fs.length cap) := (B1.cell (p := ⟨rb, 0, none⟩) h.lt).trans c0
  have cd' : w1.cell? ⟨g, i * 2 + 1, none⟩ = some x.val := (B1.cell (p := ⟨g, i * 2 + 1, none⟩) hg).trans cd
  have fd' : w1.frozen? ⟨g, i * 2 + 1, none⟩ = false := (B1.frozen (p := ⟨g, i * 2 + 1, none⟩) hg).trans fd
  obtain ⟨hF, hFg⟩ := h.store hxi' B1 own1 hc rfl
  rw [hxp, hset] at hF
  have HF := Lib.hid hF
  have HT := Lib.hid (show Touch FR w (w1.setCell ⟨g, i * 2 + 1, none⟩ v1) from (Touch.of_below B1).trans (Touch.setCell _ _ _ hFg))
  have hu1 : ∃ A1 cap1, u = .slice A1 c.length cap1 := by obtain ⟨A1, cap1, e, _⟩ := hu; exact ⟨A1, cap1, e⟩
  have hv1 : ∃ A1 cap1, v1 = .slice A1 c.length cap1 := by obtain ⟨A1, cap1, e, _⟩ := own_form own1; exact ⟨A1, cap1, e⟩
  obtain ⟨A1, cap1, rfl⟩ := hu1
  obtain ⟨A2, cap2, rfl⟩ := hv1
  have hov : x.val.oneCell' = true := data_one h x (List.mem_of_getElem? hxi')
  have i0 : (0 : Int) ≤ (i : Int) := by omega
  have i1 : (i : Int) < (fs.length : Int) := by omega
  have CF := Lib.hid CF
  clear h hrise hx hu hc hi hxp hset hxi hxi' hat hnone own1 g1 B1 hF hFg cd fd hg
  go_enter Tryz.func105, Tryz.ntmps105
  go_wp2_with (go_at_call 100; refine (CF.out).mono ?_; rintro e w' ⟨rfl, rfl⟩)
  go_region_law (refine step_append_run run1 (by rfl) _ _ (by rfl) (by rfl) (by rfl) (by rfl) ?_)
  all_goals
    go_end0
    exact ⟨_, _, rfl, HF.out, HT.out⟩

/-- between two rounds of the search for a new file's place -/
def AheadI (fs : List Ent) (p : List UInt8) (i : Value) : Prop := ∃ k : Nat, k ≤ fs.length ∧ i = .int .i64 k ∧ ((fs.take k).all fun x => Op.bytesLess x.path p) = true
theorem ahead_at {fs : List Ent} {p : List UInt8} {k : Nat} (hk : k ≤ fs.length) (h : ((fs.take k).all fun x => Op.bytesLess x.path p) = true) (hn : ∀ x, fs[k]? = some x → Op.bytesLess x.path p = false) : aheadE fs p = k := by
  unfold aheadE
  have hlow : ∀ j (hj : j < fs.length), j < k → Op.bytesLess fs[j].path p = true := fun j hj hjk => by
    rw [List.all_eq_true] at h
    exact h _ (by rw [List.mem_take_iff_getElem]; exact ⟨j, by omega, rfl⟩)
  rcases Nat.lt_or_ge k fs.length with hlt | hge
  · rw [List.findIdx_eq hlt]
    refine ⟨by rw [hn _ (List.getElem?_eq_getElem hlt)]; rfl, fun j hj => ?_⟩
    rw [hlow j (by omega) hj]
    rfl
  · obtain rfl : k = fs.length := by omega
    rw [List.findIdx_eq_length]
    intro x hx
    obtain ⟨j, hj, rfl⟩ := List.mem_iff_getElem.1 hx
    rw [hlow j hj hj]
    rfl
theorem set_mid {α : Type} (a : List α) (y z : α) (b : List α) : (a ++ y :: b).set a.length z = a ++ z :: b := by
  induction a with
  | nil => rfl
  | cons x a ih => simp [ih]

set_option maxRecDepth 100000 in
set_option maxHeartbeats 4000000 in
theorem refPut_new (h : RefV w FR rb v fs r) {p c : List UInt8} {u : Value} (hx : findE fs p = none) (hu : ∀ W, Touch (fun k => k = rb) w W → Reads W u c) (hc : c.length ≤ 1048576) (hroom : fs.length < 4096) (hp : p.length ≤ 1024) :
    Calls Tryz.prog 105 #[.pointer (some ⟨rb, 0, none⟩), str p, u] w (PutRPost w FR rb fs r p c) := by
  have CF := refFind_any h p
  have hi : findR fs p = -1 := by
    unfold findR
    rw [if_neg (by rw [hx]; simp)]
  rw [hi] at CF
  obtain ⟨A, cap, hv, hcap, _, hat⟩ := h.form
  have HUF : ∃ A1 cap1, u = .slice A1 c.length cap1 := by obtain ⟨A1, cap1, e, _⟩ := hu w (Touch.refl _ _); exact ⟨A1, cap1, e⟩
  obtain ⟨A1, cap1, rfl⟩ := HUF
  have c0 := h.cell0
  rw [hv] at c0
  have hn := h.short
  have HAT := Lib.hid hat
  have H := Lib.hid h
  have HU := Lib.hid hu
  have HX := Lib.hid hx
  have HV := Lib.hid hv
  have CF := Lib.hid CF
  clear hat h hu hx hi hv
  go_enter Tryz.func105, Tryz.ntmps105
  go_wp2_with (go_at_call 100; refine (CF.out).mono ?_; rintro e w' ⟨rfl, rfl⟩)
  go_loop [7] (fun i => AheadI fs p i) (fun i => fs.length - (intOf i).toNat)
  case atStart => exact ⟨0, Nat.zero_le _, rfl, rfl⟩
  case round =>
    obtain ⟨k, hk, rfl, hall⟩ := hrel
    have HALL := Lib.hid hall
    clear hall
    by_cases hgo : ∃ x, fs[k]? = some x ∧ Op.bytesLess x.path p = true
    · obtain ⟨x, hxk, hless⟩ := hgo
      have hlt : k < fs.length := (List.getElem?_eq_some_iff.1 hxk).1
      obtain ⟨g, rfl, _, cp, _, _⟩ := HAT.out k x hxk
      have HXK := Lib.hid hxk
      have HLESS := Lib.hid hless
      clear hxk
      go_wp2_with fail
      go_round
      case rel => exact ⟨k + 1, by omega, by go_num, by rw [List.take_add_one, HXK.out, List.all_append, HALL.out]; simp [HLESS.out]⟩
      case measure => simp [intOf]; omega
    · have hah : aheadE fs p = k := ahead_at hk HALL.out fun x hxk => by
        cases hb : Op.bytesLess x.path p with
        | false => rfl
        | true => exact absurd ⟨x, hxk, hb⟩ hgo
      -- the list that comes
      have hnone := World.ownsRow_nil w w.heap.size 94 2
      have hrow := H.out.row
      rw [HV.out] at hrow
      obtain ⟨v1, w1, run1, own1, g1, _⟩ := append_files w w.heap.size (.slice none 0 0) [] hnone (fs.take k) (m := k) (by rw [List.length_take]; omega) (by rw [fileVals_take]; exact own_head hrow hk) (fun y hy => data_one H.out y (List.mem_of_mem_take hy)) (by rw [List.length_take]; simp; omega) (Nat.le_refl _) 26
      rw [List.nil_append] at own1
      have B1 : Below w.heap.size w w1 := grown_below g1 (Nat.le_refl _) (fun k e => by cases e)
      obtain ⟨wa, hwa⟩ : ∃ wa, wa = w1.alloc (.cells #[str p, .slice none 0 0] 94) := ⟨_, rfl⟩
      have Ba : Below w.heap.size w wa := by rw [hwa]; exact B1.alloc B1.size _
      have owna : wa.ownsRow w.heap.size 94 2 v1 (fs.take k).length (fileVals (fs.take k)) := by rw [hwa]; exact own1.alloc _
      have sa : Src wa 2 (some ⟨w1.heap.size, 0, none⟩) 1 1 (fileVals [⟨p, .slice none 0 0, []⟩]) := by
        refine ⟨rfl, (fun e => by cases e), fun _ => ⟨w1.heap.size, 0, rfl, by rw [hwa]; simp, fun j u hu => ?_⟩⟩
        rw [Nat.zero_add, hwa, cell_of_row _ _ j _ _ (0, 0) (World.alloc_heap_new w1 _)]
        simpa [fileVals] using hu
      obtain ⟨v2, w2, run2, own2, g2, _⟩ := append_files wa w.heap.size v1 (fs.take k) owna [⟨p, .slice none 0 0, []⟩] (m := 1) rfl sa (fun y hy => by simp at hy; subst hy; rfl) (by rw [List.length_take]; simp; omega) Ba.size 26
      have B2 : Below w.heap.size w w2 := Ba.trans (grown_below g2 Ba.size fun k e => (owna.lt k e).1)
      have s3 := (own_tail hrow (i := k) hk).below B2
      rw [← fileVals_drop] at s3
      obtain ⟨v3, w3, run3, own3, g3, _⟩ := append_files w2 w.heap.size v2 (fs.take k ++ [⟨p, .slice none 0 0, []⟩]) own2 (fs.drop k) (m := fs.length - k) (by rw [List.length_drop]) s3 (fun y hy => data_one H.out y (List.mem_of_mem_drop hy)) (by simp; omega) B2.size 26
      have B3 : Below w.heap.size w w3 := B2.trans (grown_below g3 B2.size fun k e => (own2.lt k e).1)
      have hrl := H.out.relist (fs2 := fs.take k ++ [⟨p, .slice none 0 0, []⟩] ++ fs.drop k) B3 own3 (fun y hy => by
        rcases List.mem_append.1 hy with hy | hy
        · rcases List.mem_append.1 hy with hy | hy
          · exact .inl (List.mem_of_mem_take hy)
          · simp at hy; subst hy; exact .inr ⟨rfl, rfl, hp⟩
        · exact .inl (List.mem_of_mem_drop hy)) (by simp; omega)
      obtain ⟨w4, hw4⟩ : ∃ w4, w4 = w3.setCell ⟨rb, 0, none⟩ v3 := ⟨_, rfl⟩
      rw [← hw4] at hrl
      have T4 : Touch (fun k => k = rb) w w4 := by rw [hw4]; exact (Touch.of_below B3).trans (touch_rb _ _ _ _)
      have hmid : fs.take k ++ [(⟨p, .slice none 0 0, []⟩ : Ent)] ++ fs.drop k = fs.take k ++ ⟨p, .slice none 0 0, []⟩ :: fs.drop k := by simp
      rw [hmid] at hrl own3
      have hlk : (fs.take k).length = k := by rw [List.length_take]; omega
      have hxk : (fs.take k ++ (⟨p, .slice none 0 0, []⟩ : Ent) :: fs.drop k)[k]? = some ⟨p, .slice none 0 0, []⟩ := by
        rw [List.getElem?_append_right (by omega), hlk]
        simp
      have hsetm : ∀ dv, (fs.take k ++ (⟨p, .slice none 0 0, []⟩ : Ent) :: fs.drop k).set k ⟨p, dv, c⟩ = putE ⟨p, dv, c⟩ fs := fun dv => by
        have := new_is (fs := fs) (y := ⟨p, dv, c⟩) HX.out
        rw [← this]
        show _ = fs.take (aheadE fs p) ++ _ :: fs.drop (aheadE fs p)
        rw [hah]
        have h2 := set_mid (fs.take k) (⟨p, .slice none 0 0, []⟩ : Ent) ⟨p, dv, c⟩ (fs.drop k)
        rwa [hlk] at h2
      have hlen3 : (fs.take k ++ (⟨p, .slice none 0 0, []⟩ : Ent) :: fs.drop k).length = fs.length + 1 := by simp; omega
      obtain ⟨A3, cap3, hv3, hcap3, _, hat3⟩ := hrl.form
      rw [hlen3] at hv3 hcap3
      obtain ⟨g4, rfl, hg4, _, cd4, fd4⟩ := hat3 k _ hxk
      have hnone4 := World.ownsRow_nil w4.drew w4.heap.size 5 1
      have hu4 := HU.out w4 T4
      obtain ⟨v5, w5, run5, own5, g5, _⟩ := append_bytes w4.drew w4.heap.size (.slice none 0 0) [] hnone4 c hu4 (by simp; omega) (Nat.le_refl _) 30
      rw [List.nil_append] at own5
      have B5 : Below w4.heap.size w4 w5 := below_drew (grown_below g5 (Nat.le_refl _) (fun k e => by cases e))
      obtain ⟨hF, _⟩ := hrl.store hxk B5 own5 hc hv3
      rw [hsetm] at hF
      have HF := Lib.hid (hF.more (FR' := fun k => FR k ∨ w.heap.size ≤ k) fun k hk => by
        have := T4.size
        rcases hk with (hk | hk) | hk
        · exact .inl hk
        · exact .inr hk
        · exact .inr (by omega))
      have hgn : w.heap.size ≤ g4 := by
        have := (own3.lt g4 (by rw [hv3]; rfl)).1
        exact this
      have HT := Lib.hid (show Touch FR w (w5.setCell ⟨g4, k * 2 + 1, none⟩ v5) from by
        have t1 : Touch FR w w5 := (T4.mono fun j _ e => by subst e; exact H.out.own).trans (Touch.of_below B5)
        exact t1.later (Touch.setCell _ _ _ hgn))
      -- the cells that the walk reads
      have c1 : w1.cell? ⟨rb, 0, none⟩ = some (.slice A fs.length cap) := (B1.cell (p := ⟨rb, 0, none⟩) H.out.lt).trans c0
      have ca : wa.cell? ⟨rb, 0, none⟩ = some (.slice A fs.length cap) := (Ba.cell (p := ⟨rb, 0, none⟩) H.out.lt).trans c0
      have c2 : w2.cell? ⟨rb, 0, none⟩ = some (.slice A fs.length cap) := (B2.cell (p := ⟨rb, 0, none⟩) H.out.lt).trans c0
      have c3 : w3.cell? ⟨rb, 0, none⟩ = some (.slice A fs.length cap) := (B3.cell (p := ⟨rb, 0, none⟩) H.out.lt).trans c0
      have f3 : w3.frozen? ⟨rb, 0, none⟩ = false := (B3.frozen (p := ⟨rb, 0, none⟩) H.out.lt).trans (H.out.frozen 0)
      have c4 := hrl.cell0
      rw [hv3] at c4
      have c5 : w5.cell? ⟨rb, 0, none⟩ = some (.slice (some ⟨g4, 0, none⟩) (fs.length + 1) cap3) := (B5.cell (p := ⟨rb, 0, none⟩) hrl.lt).trans c4
      have cd5 : w5.cell? ⟨g4, k * 2 + 1, none⟩ = some (.slice none 0 0) := (B5.cell (p := ⟨g4, k * 2 + 1, none⟩) hg4).trans cd4
      have fd5 : w5.frozen? ⟨g4, k * 2 + 1, none⟩ = false := (B5.frozen (p := ⟨g4, k * 2 + 1, none⟩) hg4).trans fd4
      have sh := slice_head (P := Tryz.prog) 26 94 Tryz.underlying26 2 size_file A fs.length cap k (by omega)
      have st := slice_tail (P := Tryz.prog) 26 94 Tryz.underlying26 2 size_file A fs.length cap k (by omega)
      obtain ⟨B1', cb1, rfl⟩ : ∃ A1 cap1, v1 = .slice A1 k cap1 := by obtain ⟨A1, cap1, e, _⟩ := own_form own1; rw [hlk] at e; exact ⟨A1, cap1, e⟩
      obtain ⟨B2', cb2, rfl⟩ : ∃ A1 cap1, v2 = .slice A1 (k + 1) cap1 := by obtain ⟨A1, cap1, e, _⟩ := own_form own2; rw [List.length_append, hlk] at e; exact ⟨A1, cap1, e⟩
      obtain ⟨B5', cb5, rfl⟩ : ∃ A1 cap1, v5 = .slice A1 c.length cap1 := by obtain ⟨A1, cap1, e, _⟩ := own_form own5; exact ⟨A1, cap1, e⟩
      have hbuild : ∀ W, (Instr.build 94 #[(0, str p)]).run Tryz.prog W = .ok (.agg #[str p, .slice none 0 0]) W := fun W => run_build W _ _ _ (by kernel_rfl)
      subst hv3
      have HGO : Hid (∀ x, fs[k]? = some x → Op.bytesLess x.path p = false) := Lib.hid fun x hxk => by
        cases hb : Op.bytesLess x.path p with
        | false => rfl
        | true => exact absurd ⟨x, hxk, hb⟩ hgo
      have i0 : (0 : Int) ≤ (k : Int) := by omega
      have i1 : (k : Int) < ((fs.length + 1 : Nat) : Int) := by omega
      have i2 : (k : Int) < (fs.length : Int) + 1 := by omega
      clear hnone hrow own1 g1 B1 owna Ba sa own2 g2 B2 s3 own3 g3 B3 hrl T4 hmid hlk hxk hsetm hlen3 hat3 hnone4 hu4 own5 g5 B5 hF hgn cd4 fd4 hg4 hah hgo
      generalize tailA A cap k 2 = A3 at st run3
      have hT := Tryz.underlying26
      have tok1 : True := trivial
      have tok2 : True := trivial
      rw [hwa] at run2
      clear hwa ca
      subst hw4
      by_cases hlt : k < fs.length
      · obtain ⟨x, hxk⟩ : ∃ x, fs[k]? = some x := ⟨_, List.getElem?_eq_getElem hlt⟩
        have hless := HGO.out x hxk
        obtain ⟨g, rfl, _, cp, _, _⟩ := HAT.out k x hxk
        clear hxk
        go_wp2_with (first
          | (at_builtin; have tk := tok1; clear tk; refine wpList_append_run run1 (by rfl) _ _ (by rfl) (by rfl) (by rfl) (by rfl) ?_; clear tok1)
          | (at_builtin; have tk := tok2; clear tk; refine wpList_append_run run2 (by rfl) _ _ (by rfl) (by rfl) (by rfl) (by rfl) ?_; clear tok2)
          | (at_builtin; refine wpList_append_run run3 (by rfl) _ _ (by rfl) (by rfl) (by rfl) (by rfl) ?_)
          | (refine wpList_slice_run sh hT (by rfl) _ _ _ (by rfl) (by rfl) (by rfl) (by rfl) ?_)
          | (refine wpList_slice_run st hT (by rfl) _ _ _ (by rfl) (by rfl) (by rfl) (by rfl) ?_))
        go_region_law (refine step_append_run run5 (by rfl) _ _ (by rfl) (by rfl) (by rfl) (by rfl) ?_)
        all_goals
          go_end0
          exact ⟨_, _, rfl, HF.out, HT.out⟩
      · skip
        go_wp2_with (first
          | (at_builtin; have tk := tok1; clear tk; refine wpList_append_run run1 (by rfl) _ _ (by rfl) (by rfl) (by rfl) (by rfl) ?_; clear tok1)
          | (at_builtin; have tk := tok2; clear tk; refine wpList_append_run run2 (by rfl) _ _ (by rfl) (by rfl) (by rfl) (by rfl) ?_; clear tok2)
          | (at_builtin; refine wpList_append_run run3 (by rfl) _ _ (by rfl) (by rfl) (by rfl) (by rfl) ?_)
          | (refine wpList_slice_run sh hT (by rfl) _ _ _ (by rfl) (by rfl) (by rfl) (by rfl) ?_)
          | (refine wpList_slice_run st hT (by rfl) _ _ _ (by rfl) (by rfl) (by rfl) (by rfl) ?_))
        go_region_law (refine step_append_run run5 (by rfl) _ _ (by rfl) (by rfl) (by rfl) (by rfl) ?_)
        all_goals
          go_end0
          exact ⟨_, _, rfl, HF.out, HT.out⟩
end

end Go.Proofs.YthpkfgjjaieikaaGreatDoor
