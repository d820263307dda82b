/-
  The law TinfoOwn's own walk.
-/
import Derived.Test.YtcfgppjhgobboaaGreatDoorTiOwnP
import Derived.Deep.QuietTactic
import Derived.BigQuiet
namespace Go.Proofs.YtcfgppjhgobboaaGreatDoor
open Go.RowKit Go.Shelf Go.Lib
attribute [local go_sem] Oper.semAt_some

/-- behind the copies -/
def OwnAt (w W : World) (t : TermD) (c : CapD) (A0 A1 A2 A3 : Option Addr) (n0 n1 n2 n3 b7 : Nat) (C0 C1 C2 C3 : Option Addr) (m0 m1 m2 m3 : Nat) : Prop :=
  Objs w W [(b7, (termObj t.names t.wide (.slice C0 t.bools.length m0) (.slice C1 t.nums.length m1) (.slice C2 t.strs.length m2) (.slice C3 t.exts.length m3))), (w.heap.size + 1, capObj c), (w.heap.size, (termObj t.names t.wide (.slice A0 t.bools.length n0) (.slice A1 t.nums.length n1) (.slice A2 t.strs.length n2) (.slice A3 t.exts.length n3)))] ∧ TermV W (tri (.slice C0 t.bools.length m0) (.slice C1 t.nums.length m1) (.slice C2 t.strs.length m2)) (.slice C3 t.exts.length m3) t
theorem OwnAt.of {w W : World} {t : TermD} {c : CapD} {A0 A1 A2 A3 : Option Addr} {n0 n1 n2 n3 : Nat} {w0 : World} {vq f : Nat → Value} {L : Nat → Bool} {tb : Nat} (hf : Fits t) (h0 : Objs w w0 [(w.heap.size + 1, capObj c), (w.heap.size, (termObj t.names t.wide (.slice A0 t.bools.length n0) (.slice A1 t.nums.length n1) (.slice A2 t.strs.length n2) (.slice A3 t.exts.length n3)))])
    (h : OwnJ w0 tb t vq L f W) (hL : ∀ j, j < 19 → L j = true) : ∃ b7 C0 m0 C1 m1 C2 m2 C3 m3, f 17 = .pointer (some ⟨b7, 0, none⟩) ∧ OwnAt w W t c A0 A1 A2 A3 n0 n1 n2 n3 b7 C0 C1 C2 C3 m0 m1 m2 m3 := by
  obtain ⟨b7, e, hb, hbox⟩ := h.made (hL _ (by omega))
  rw [if_pos (hL _ (by omega))] at hbox
  have r0 := h.rows 0 (by omega) (hL _ (by omega))
  have r1 := h.rows 1 (by omega) (hL _ (by omega))
  have r2 := h.rows 2 (by omega) (hL _ (by omega))
  have r3 := h.rows 3 (by omega) (hL _ (by omega))
  unfold RowQ at r0 r1 r2 r3
  rw [if_neg (by omega)] at r0 r1 r2
  rw [if_pos rfl] at r3
  have r0' : CapRow W (f 6) t.bools := r0
  have r1' : CapRow W (f 9) t.nums := r1
  have r2' : CapRow W (f 12) t.strs := r2
  have r3' : ExtRow W (f 15) t.exts := r3
  obtain ⟨C0, m0, e0⟩ := r0'.form
  obtain ⟨C1, m1, e1⟩ := r1'.form
  obtain ⟨C2, m2, e2⟩ := r2'.form
  obtain ⟨C3, m3, e3⟩ := r3'.form
  rw [e0] at r0' hbox
  rw [e1] at r1' hbox
  rw [e2] at r2' hbox
  rw [e3] at r3' hbox
  have hO := h0.next h.base
  refine ⟨b7, C0, m0, C1, m1, C2, m2, C3, m3, e, ⟨fun p hp => ?_, hO.below, hO.tabs⟩, TermV.mk4 (r0'.reads (hf.1 0 (by omega))) (r1'.reads (hf.1 1 (by omega))) (r2'.reads (hf.1 2 (by omega))) (r3'.reads hf.2)⟩
  rcases List.mem_cons.1 hp with rfl | hp
  · exact hbox
  · exact hO.objs p hp

/-- the rows of a new entry may be written -/
def OwnRows (W1 W2 : World) (B0 B1 B2 B3 : Option Addr) (p0 p1 p2 p3 : Nat) (u : TermD) : Prop :=
  (WrV W1.heap.size W2.heap.size W2 B0 (u.bools.length * 3) ∧ u.bools.length ≤ p0 ∧ u.bools.length * 3 ≤ 140737488355328) ∧ (WrV W1.heap.size W2.heap.size W2 B1 (u.nums.length * 3) ∧ u.nums.length ≤ p1 ∧ u.nums.length * 3 ≤ 140737488355328) ∧
  (WrV W1.heap.size W2.heap.size W2 B2 (u.strs.length * 3) ∧ u.strs.length ≤ p2 ∧ u.strs.length * 3 ≤ 140737488355328) ∧ (WrV W1.heap.size W2.heap.size W2 B3 (u.exts.length * 5) ∧ u.exts.length ≤ p3 ∧ u.exts.length * 5 ≤ 140737488355328)
theorem OwnRows.of {W1 W2 : World} {v : Nat → Value} {ve : Value} {u : TermD} {B0 B1 B2 B3 : Option Addr} {p0 p1 p2 p3 : Nat} (h : TermRows W2 W1.heap.size v ve u) (e0 : v 0 = .slice B0 u.bools.length p0) (e1 : v 1 = .slice B1 u.nums.length p1) (e2 : v 2 = .slice B2 u.strs.length p2) (e3 : ve = .slice B3 u.exts.length p3) (hf : Fits u) : OwnRows W1 W2 B0 B1 B2 B3 p0 p1 p2 p3 u := by
  have r0 := h.rows 0 (by omega)
  have r1 := h.rows 1 (by omega)
  have r2 := h.rows 2 (by omega)
  have r3 := h.exts
  have o0 := h.own 0 (by omega)
  have o1 := h.own 1 (by omega)
  have o2 := h.own 2 (by omega)
  have o3 := h.owne
  rw [e0] at r0 o0
  rw [e1] at r1 o1
  rw [e2] at r2 o2
  rw [e3] at r3 o3
  have f0 : u.bools.length * 32 ≤ 140737488355328 := hf.1 0 (by omega)
  have f1 : u.nums.length * 32 ≤ 140737488355328 := hf.1 1 (by omega)
  have f2 : u.strs.length * 32 ≤ 140737488355328 := hf.1 2 (by omega)
  have f3 : u.exts.length * 56 ≤ 140737488355328 := hf.2
  have cp : ∀ {e : TypeId} {size n cap : Nat} {A : Option Addr} {xs : List Value}, W2.ownsRow 0 e size (.slice A n cap) n xs → n ≤ cap := fun {e size n cap A xs} hr => by
    obtain ⟨A', cap', e, h1, _⟩ := own_form hr
    injection e with _ _ e
    omega
  exact ⟨⟨WrV.of_row r0 o0, cp r0, by omega⟩, ⟨WrV.of_row r1 o1, cp r1, by omega⟩, ⟨WrV.of_row r2 o2, cp r2, by omega⟩, ⟨WrV.of_row r3 o3, cp r3, by omega⟩⟩

theorem OwW.start {W1 W2 : World} {B0 B1 B2 B3 : Option Addr} {p0 p1 p2 p3 : Nat} {u : TermD} (hb : Below W1.heap.size W1 W2) (h : OwnRows W1 W2 B0 B1 B2 B3 p0 p1 p2 p3 u) (nm : List UInt8) (wd : Bool) :
    OwW W1 W2.heap.size W2.heap.size (W2.heap.size + 1) B3 u.exts.length p3 ((W2.alloc (termObj nm wd (.slice B0 u.bools.length p0) (.slice B1 u.nums.length p1) (.slice B2 u.strs.length p2) (.slice B3 u.exts.length p3))).alloc (.cells #[.slice B0 u.bools.length p0, .slice B1 u.nums.length p1, .slice B2 u.strs.length p2] 23)) := by
  have b1 := below_alloc W2 (termObj nm wd (.slice B0 u.bools.length p0) (.slice B1 u.nums.length p1) (.slice B2 u.strs.length p2) (.slice B3 u.exts.length p3))
  have b2 := below_alloc (W2.alloc (termObj nm wd (.slice B0 u.bools.length p0) (.slice B1 u.nums.length p1) (.slice B2 u.strs.length p2) (.slice B3 u.exts.length p3))) (.cells #[.slice B0 u.bools.length p0, .slice B1 u.nums.length p1, .slice B2 u.strs.length p2] 23)
  have hbb := b1.trans (b2.mono b1.size)
  obtain ⟨⟨h0, h0'⟩, ⟨h1, h1'⟩, ⟨h2, h2'⟩, ⟨h3, h3'⟩⟩ := h
  have c1 := World.alloc_heap_new W2 (termObj nm wd (.slice B0 u.bools.length p0) (.slice B1 u.nums.length p1) (.slice B2 u.strs.length p2) (.slice B3 u.exts.length p3))
  have c2 := World.alloc_heap_new (W2.alloc (termObj nm wd (.slice B0 u.bools.length p0) (.slice B1 u.nums.length p1) (.slice B2 u.strs.length p2) (.slice B3 u.exts.length p3))) (.cells #[.slice B0 u.bools.length p0, .slice B1 u.nums.length p1, .slice B2 u.strs.length p2] 23)
  rw [World.size_alloc] at c2
  have c1' := (b2.block _ (Array.getElem?_eq_some_iff.1 c1).1).trans c1
  refine ⟨hb.trans (hbb.mono hb.size), ⟨hb.size, Nat.le_refl _, by omega, (Array.getElem?_eq_some_iff.1 c1').1, (Array.getElem?_eq_some_iff.1 c2).1⟩, cell_of_row _ _ 5 _ _ _ c1', ⟨h3.next hbb, h3'⟩, fun q hq => ?_⟩
  match q, hq with
  | 0, _ => exact ⟨_, _, _, cell_of_row _ _ 0 _ _ _ c2, h0.next hbb, h0'⟩
  | 1, _ => exact ⟨_, _, _, cell_of_row _ _ 1 _ _ _ c2, h1.next hbb, h1'⟩
  | 2, _ => exact ⟨_, _, _, cell_of_row _ _ 2 _ _ _ c2, h2.next hbb, h2'⟩

theorem eqc_true (w : World) (u v : Value) (l : List CapD) (hu : CapsV w u l) (hv : CapsV w v l) : Calls Tryz.prog 21 #[u, v] w fun e w' => e = .returned (.bool true) ∧ Below w.heap.size w w' :=
  (eqCaps_any w u v l l hu hv).mono fun e w' ⟨h1, n, h2⟩ => ⟨by rw [h1]; simp, by rw [h2]; exact below_drewN (Below.refl _ _) n⟩
theorem eqe_true (w : World) (u v : Value) (l : List ExtD) (hu : ExtsV w u l) (hv : ExtsV w v l) : Calls Tryz.prog 22 #[u, v] w fun e w' => e = .returned (.bool true) ∧ Below w.heap.size w w' :=
  (eqExts_any w u v l l hu hv).mono fun e w' ⟨h1, n, h2⟩ => ⟨by rw [h1]; simp, by rw [h2]; exact below_drewN (Below.refl _ _) n⟩
theorem xt_small : xtermP.bools.length ≤ 1000 ∧ xtermP.nums.length ≤ 1000 ∧ xtermP.strs.length ≤ 1000 ∧ xtermP.exts.length ≤ 1000 := by decide +kernel
theorem OwA.start {W1 wr w5 : World} {tb : Nat} {v : Nat → Value} {ve : Value} {X : TermD} {A : Option Addr} {cap : Nat} (hB : Below W1.heap.size W1 wr) (hTA : TermAt w5 (fun k => wr.heap.size ≤ k) tb v ve X) (e2 : v 2 = .slice A X.strs.length cap) (hb : Below wr.heap.size wr w5) (nm : List UInt8) (wd : Bool) (p q s : Value) :
    OwA W1 w5.heap.size w5.heap.size A X.strs.length cap (w5.alloc (termObj nm wd p q (.slice A X.strs.length cap) s)) := by
  have b1 := below_alloc w5 (termObj nm wd p q (.slice A X.strs.length cap) s)
  have c1 := World.alloc_heap_new w5 (termObj nm wd p q (.slice A X.strs.length cap) s)
  have hB5 := hB.trans (hb.mono hB.size)
  have r := hTA.rows 2 (by omega)
  have o := hTA.own 2 (by omega)
  rw [e2] at r o
  exact ⟨hB5.trans (b1.mono hB5.size), ⟨hB5.size, Nat.le_refl _, (Array.getElem?_eq_some_iff.1 c1).1⟩, cell_of_row _ _ 4 _ _ _ c1, (WrV.of_row r fun b hb' => Nat.le_trans hB.size (o b hb').1).next b1⟩

set_option maxRecDepth 1000000 in
set_option maxHeartbeats 16000000 in
theorem own_walk (w : World) (t : TermD) (v : Nat → Value) (ve : Value) (h : TermV w v ve t) (hT : Tabs w) (name : List UInt8) (c : CapD) :
    Calls Tryz.prog 6 #[termVal t v ve, str name, .agg #[.int .i64 c.st, .int .i64 c.num, str c.text]] w fun e w' => e = .returned (.bool true) ∧ Below w.heap.size w w' := by
  obtain ⟨A0, n0, A1, n1, A2, n2, A3, n3, hv, hV⟩ := h.slices
  rw [hv]
  have HFT := Lib.hid h.fits
  clear h hv
  have CS : Hid (∀ W, Below w.heap.size w W → Calls Tryz.prog 14 #[.agg #[str t.names, .bool t.wide, .slice A0 t.bools.length n0, .slice A1 t.nums.length n1, .slice A2 t.strs.length n2, .slice A3 t.exts.length n3], str name, .agg #[.int .i64 c.st, .int .i64 c.num, str c.text]] W (SetPost W (setP t name c))) := Lib.hid (fun W hW => set_any W t _ _ (hV.below hW) (hT.below hW) name c)
  have HFU := Lib.hid (setP_fits (name := name) (c := c) HFT.out)
  have ho := ((Objs.none hT).push (termObj t.names t.wide (.slice A0 t.bools.length n0) (.slice A1 t.nums.length n1) (.slice A2 t.strs.length n2) (.slice A3 t.exts.length n3))).push (capObj c)
  simp only [World.size_alloc] at ho
  have HO := Lib.hid ho
  have HV := Lib.hid hV
  have C : ∀ q, q < 4 → ∀ W, Below ((w.alloc (termObj t.names t.wide (.slice A0 t.bools.length n0) (.slice A1 t.nums.length n1) (.slice A2 t.strs.length n2) (.slice A3 t.exts.length n3))).alloc (capObj c)).heap.size ((w.alloc (termObj t.names t.wide (.slice A0 t.bools.length n0) (.slice A1 t.nums.length n1) (.slice A2 t.strs.length n2) (.slice A3 t.exts.length n3))).alloc (capObj c)) W → Calls Tryz.prog (if q = 3 then 18 else 17) #[(fun q => if q = 3 then .slice A3 t.exts.length n3 else tri (.slice A0 t.bools.length n0) (.slice A1 t.nums.length n1) (.slice A2 t.strs.length n2) q) q] W fun e W' => ∃ u, e = .returned u ∧ RowQ W' t q u ∧ Below W.heap.size W W' := fun q hq W hW => by
    have hW' := hV.below (ho.below.trans (hW.mono ho.below.size))
    by_cases hq3 : q = 3
    · subst hq3
      simp only [if_true]
      refine (cloneExts_any W _ t.exts hW'.exts).mono ?_
      rintro e W' ⟨u, he, hr, hb, _⟩
      exact ⟨u, he, by unfold RowQ; rw [if_pos rfl]; exact hr, hb⟩
    · simp only [if_neg hq3]
      refine (cloneCaps_any W _ (listOf t q) (hW'.caps q (by omega))).mono ?_
      rintro e W' ⟨u, he, hr, hb, _⟩
      exact ⟨u, he, by unfold RowQ; rw [if_neg hq3]; exact hr, hb⟩
  have HC := Lib.hid C
  have CX : Hid (∀ W, Tabs W → Calls Tryz.prog 19 #[str [120, 116, 101, 114, 109]] W fun e w' => ∃ tb v ve, e = .returned (.tuple #[termVal xtermP v ve, .bool true]) ∧ TermAt w' (fun k => W.heap.size ≤ k) tb v ve xtermP ∧ Below W.heap.size W w') := Lib.hid (fun W hW => shipped_xt W hW)
  have CRX : Hid (∀ W, Tabs W → Calls Tryz.prog 20 #[str [120, 116, 101, 114, 109]] W fun e w' => ∃ u ue, e = .returned (.tuple #[termVal xtermP u ue, .bool true]) ∧ TermV w' u ue xtermP ∧ Below W.heap.size W w') := Lib.hid (fun W hW => refShip_any W hW)
  have HSM : Hid (xtermP.bools.length ≤ 1000 ∧ xtermP.nums.length ≤ 1000 ∧ xtermP.strs.length ≤ 1000 ∧ xtermP.exts.length ≤ 1000) := Lib.hid xt_small
  generalize xtermP = X at *
  clear hV hT ho C
  generalize setP t name c = r at *
  obtain ⟨u, er⟩ := r
  have hbx : ((w.alloc (termObj t.names t.wide (.slice A0 t.bools.length n0) (.slice A1 t.nums.length n1) (.slice A2 t.strs.length n2) (.slice A3 t.exts.length n3))).alloc (capObj c)).heap[w.heap.size]? = some (termObj t.names t.wide ((fun q => if q = 3 then .slice A3 t.exts.length n3 else tri (.slice A0 t.bools.length n0) (.slice A1 t.nums.length n1) (.slice A2 t.strs.length n2) q) 0) ((fun q => if q = 3 then .slice A3 t.exts.length n3 else tri (.slice A0 t.bools.length n0) (.slice A1 t.nums.length n1) (.slice A2 t.strs.length n2) q) 1) ((fun q => if q = 3 then .slice A3 t.exts.length n3 else tri (.slice A0 t.bools.length n0) (.slice A1 t.nums.length n1) (.slice A2 t.strs.length n2) q) 2) ((fun q => if q = 3 then .slice A3 t.exts.length n3 else tri (.slice A0 t.bools.length n0) (.slice A1 t.nums.length n1) (.slice A2 t.strs.length n2) q) 3)) := HO.out.objs (w.heap.size, (termObj t.names t.wide (.slice A0 t.bools.length n0) (.slice A1 t.nums.length n1) (.slice A2 t.strs.length n2) (.slice A3 t.exts.length n3))) (.tail _ (.head _))
  have HBX := Lib.hid hbx
  clear hbx
  go_enter Tryz.func6, Tryz.ntmps6
  go_wp2_with fail
  change Code.wp Tryz.prog (.region 1 (regionOf Tryz.f6 1) true) _ _ _
  refine wp_region_facts (by kernel_rfl) (OwnJ ((w.alloc (termObj t.names t.wide (.slice A0 t.bools.length n0) (.slice A1 t.nums.length n1) (.slice A2 t.strs.length n2) (.slice A3 t.exts.length n3))).alloc (capObj c)) w.heap.size t (fun q => if q = 3 then .slice A3 t.exts.length n3 else tri (.slice A0 t.bools.length n0) (.slice A1 t.nums.length n1) (.slice A2 t.strs.length n2) q)) own_ok own_deps ⟨below_drewN (Below.refl _ _) 1, (fun j x _ h => by cases h), (fun q _ h => by cases h), (fun h => by cases h), fun h => by cases h⟩ (own_step _ _ t _ _ _ rfl HBX.out HC.out) (fun f W a hJ hA => ?_)
  have hL : ∀ j, j < 19 → (fun j => decide (j < (regionOf Tryz.f6 1).size)) j = true := fun j hj => by simp [own_size, hj]
  obtain ⟨b7, C0, m0, C1, m1, C2, m2, C3, m3, e17, hown⟩ := OwnAt.of HFT.out HO.out hJ hL
  have hact := act_lit hA
  have hlit : a = ⟨#[.agg #[str t.names, .bool t.wide, .slice A0 t.bools.length n0, .slice A1 t.nums.length n1, .slice A2 t.strs.length n2, .slice A3 t.exts.length n3], str name, .agg #[.int .i64 c.st, .int .i64 c.num, str c.text], .pointer (some ⟨w.heap.size, 0, none⟩), undef, .pointer (some ⟨w.heap.size + 1, 0, none⟩), .bool false, f 17, undef, undef, undef, undef, undef, undef, undef, undef, undef, undef, undef, undef, undef, f 0, f 1, f 2, f 3, f 4, f 5, f 6, f 7, f 8, f 9, f 10, f 11, f 12, f 13, f 14, f 15, f 16, undef, undef, undef, undef, undef, undef, undef, undef, undef, undef, undef, undef, undef, undef, undef, undef, undef, undef, undef, undef, undef, undef, undef, undef, undef, undef, undef, undef, undef, undef, undef, undef, undef, undef, undef, undef, undef, undef, undef, undef, undef, undef, undef, undef, undef, undef, undef, undef, undef, undef, undef, undef, undef, undef, undef, undef, undef, undef, undef, undef, undef, undef, undef, undef, undef, undef, undef, undef, undef, undef, undef, undef, undef, undef, undef, undef, undef, undef, undef, undef, undef, undef, undef, undef, undef, undef, undef, undef, undef, undef, undef, undef, undef, undef, undef, undef, undef, undef, undef, undef], []⟩ := by
    rw [hact]
    kernel_rfl
  rw [e17] at hlit
  dsimp only at hlit
  subst hlit
  have H1 := Lib.hid hown
  clear hJ hA hL hact hown e17 HC HBX HO
  obtain ⟨c0, c1, c2, c3, c4, c5⟩ := H1.out.1.term (.tail _ (.tail _ (.head _)))
  obtain ⟨k0, k1, k2⟩ := H1.out.1.cap (.tail _ (.head _))
  go_wp2_with fail
  refine (CS.out _ H1.out.1.below).mono ?_
  rintro e W2 ⟨su, sue, he, hr, hb⟩
  obtain ⟨B0, p0, B1, p1, B2, p2, B3, p3, e0, e1, e2, e3⟩ := hr.forms
  have he' : e = .returned (.tuple #[.agg #[str u.names, .bool u.wide, .slice B0 u.bools.length p0, .slice B1 u.nums.length p1, .slice B2 u.strs.length p2, .slice B3 u.exts.length p3], .int .i64 er]) := by rw [he]; simp only [termVal, e0, e1, e2, e3]
  clear he
  subst he'
  have HW := Lib.hid (OwnRows.of hr e0 e1 e2 e3 HFU.out)
  have HB2 := Lib.hid hb
  have HO2 := Lib.hid ((H1.out.1.next hb).push (termObj u.names u.wide (.slice B0 u.bools.length p0) (.slice B1 u.nums.length p1) (.slice B2 u.strs.length p2) (.slice B3 u.exts.length p3)))
  clear hr hb e0 e1 e2 e3 c0 c1 c2 c3 c4 c5 k0 k1 k2
  obtain ⟨c0, c1, c2, c3, c4, c5⟩ := HO2.out.term (.head _)
  go_wp2_with fail
  have HI := Lib.hid (OwW.start HB2.out HW.out u.names u.wide)
  have S1 := Lib.hid HB2.out.size
  clear c0 c1 c2 c3 c4 c5 HO2 CS HFU
  generalize u.bools.length = l0 at *
  generalize u.nums.length = l1 at *
  generalize u.strs.length = l2 at *
  generalize u.exts.length = l3 at *
  generalize W2.heap.size = S at *
  go_loopw [53] (fun i wr => OwOut W S S (S + 1) B3 l3 p3 i wr) (fun i _ => 3 - (RowKit.intOf i).toNat)
  case atStart => exact ⟨0, rfl, by omega, HI.out⟩
  case round =>
    obtain ⟨k, rfl, hk, hw⟩ := hrel
    have HQ := Lib.hid hw
    by_cases hlt : k < 3
    · obtain ⟨A', n', cap', hcell, hwr, hcap, hbig⟩ := hw.hdr k hlt
      have HR := Lib.hid hwr
      have i1 : (0 : Int) ≤ (k : Int) := by omega
      have i2 : (k : Int) < 3 := by omega
      clear hw hwr hk
      go_wp2_with fail
      clear hcell
      go_loopw [59] (fun i wr => OwIn W S S (S + 1) B3 l3 p3 A' n' i wr) (fun i _ => n' - (RowKit.intOf i).toNat)
      case atStart => exact ⟨0, rfl, Nat.zero_le _, HQ.out, HR.out⟩
      case round =>
        obtain ⟨j, rfl, hj, hw, hwr⟩ := hrel
        have HQ2 := Lib.hid hw
        have HR2 := Lib.hid hwr
        by_cases hjl : j < n'
        · obtain ⟨g, rfl, hg1, hg2, hc, hf⟩ := hwr.at (by omega)
          obtain ⟨x0, y0⟩ := hc (j * 3) (by omega)
          obtain ⟨x1, y1⟩ := hc (j * 3 + 1) (by omega)
          obtain ⟨x2, y2⟩ := hc (j * 3 + 2) (by omega)
          have f0 := hf (j * 3)
          have f1 := hf (j * 3 + 1)
          have f2 := hf (j * 3 + 2)
          have j1 : (0 : Int) ≤ (j : Int) := by omega
          have j2 : (j : Int) < (n' : Int) := by omega
          have HG := Lib.hid (And.intro hg1 hg2)
          clear hw hwr hc hf hg1 hg2 hj
          go_wp2_with fail
          go_roundw
          case rel => exact ⟨j + 1, by go_num, by omega, ((HQ2.out.set HG.out.1 HG.out.2 _ _).set HG.out.1 HG.out.2 _ _).set HG.out.1 HG.out.2 _ _, ((HR2.out.set _ _ _).set _ _ _).set _ _ _⟩
          case measure => simp [RowKit.intOf]; omega
        · obtain rfl : j = n' := by omega
          clear hw hwr hj
          go_wp2_with fail
          go_roundw
          case rel => exact ⟨k + 1, by go_num, by omega, HQ2.out⟩
          case measure => simp [RowKit.intOf]; omega
    · obtain rfl : k = 3 := by omega
      have hbox := hw.box
      clear hw hk
      go_wp2_with fail
      clear hbox
      go_loopw [71] (fun i wr => OwEx W S S (S + 1) B3 l3 p3 i wr) (fun i _ => l3 - (RowKit.intOf i).toNat)
      case atStart => exact ⟨0, rfl, Nat.zero_le _, HQ.out⟩
      case round =>
        obtain ⟨j, rfl, hj, hw⟩ := hrel
        have HQ2 := Lib.hid hw
        have hbox := hw.box
        by_cases hjl : j < l3
        · obtain ⟨hx1, hx2, hx3⟩ := hw.exts
          obtain ⟨g, rfl, hg1, hg2, hc, hf⟩ := hx1.at (by omega)
          obtain ⟨x1, y1⟩ := hc (j * 5 + 1) (by omega)
          have f1 := hf (j * 5 + 1)
          have j1 : (0 : Int) ≤ (j : Int) := by omega
          have j2 : (j : Int) < (l3 : Int) := by omega
          have HG := Lib.hid (And.intro hg1 hg2)
          clear hw hx1 hc hf hg1 hg2 hj
          go_wp2_with fail
          go_roundw
          case rel => exact ⟨j + 1, by go_num, by omega, HQ2.out.set HG.out.1 HG.out.2 _ _⟩
          case measure => simp [RowKit.intOf]; omega
        · obtain rfl : j = l3 := by omega
          have HB3 := Lib.hid hw.base
          have HT3 := Lib.hid (H1.out.1.next HB3.out).tabs
          clear hw hj hbox
          go_wp2_with fail
          refine (CX.out _ HT3.out).mono ?_
          rintro e w5 ⟨tb, xv, xve, he, hTA, hb5⟩
          obtain ⟨D0, q0, D1, q1, D2, q2, D3, q3, e0, e1, e2, e3⟩ := hTA.forms
          have he' : e = .returned (.tuple #[.agg #[str X.names, .bool X.wide, .slice D0 X.bools.length q0, .slice D1 X.nums.length q1, .slice D2 X.strs.length q2, .slice D3 X.exts.length q3], .bool true]) := by rw [he]; simp only [termVal, e0, e1, e2, e3]
          clear he
          subst he'
          have HA := Lib.hid (OwA.start HB3.out hTA e2 hb5 X.names X.wide (.slice D0 X.bools.length q0) (.slice D1 X.nums.length q1) (.slice D3 X.exts.length q3))
          have hc4 := HA.out.box
          clear hTA hb5 e0 e1 e2 e3
          go_wp2_with fail
          clear hc4
          obtain ⟨ls, hls⟩ : ∃ ls, X.strs.length = ls := ⟨_, rfl⟩
          have HLS := Lib.hid (And.intro hls HSM.out.2.2.1)
          rw [hls] at HA ⊢
          have hls2 : ls ≤ 1000 := by rw [← hls]; exact HSM.out.2.2.1
          clear hls
          go_loopw [87] (fun i wr => OwAR W w5.heap.size w5.heap.size D2 ls q2 i wr) (fun i _ => ls - (RowKit.intOf i).toNat)
          case atStart => exact ⟨0, rfl, Nat.zero_le _, HA.out⟩
          case round =>
            obtain ⟨i, rfl, hi, hw⟩ := hrel
            have HQ3 := Lib.hid hw
            have hbox := hw.box
            by_cases hil : i < ls
            · obtain ⟨g, rfl, hg1, hg2, hc, hf⟩ := hw.row.at (by omega)
              obtain ⟨x1, y1⟩ := hc (i * 3 + 2) (by omega)
              have f1 := hf (i * 3 + 2)
              have j1 : (0 : Int) ≤ (i : Int) := by omega
              have j2 : (i : Int) < (ls : Int) := by omega
              have HG := Lib.hid (And.intro hg1 hg2)
              clear hw hc hf hg1 hg2 hi
              go_wp2_with fail
              go_roundw
              case rel => exact ⟨i + 1, by go_num, by omega, HQ3.out.set HG.out.1 HG.out.2 _ _⟩
              case measure => simp [RowKit.intOf]; omega
            · obtain rfl : i = ls := by omega
              have HO4 := Lib.hid (H1.out.1.next hw.base)
              have HW4 := Lib.hid hw.base
              clear hw hi hbox
              go_wp2_with fail
              refine (CX.out _ HO4.out.tabs).mono ?_
              rintro e w6 ⟨tb2, yv, yve, he, hTB, hb6⟩
              obtain ⟨E0, r0, E1, r1, E2, r2, E3, r3, hval, hY⟩ := (hTB.reads HSM.out).slices
              rw [hval] at he
              subst he
              have HM5 := Lib.hid ((H1.out.2.below HW4.out).below hb6)
              have HO5 := Lib.hid ((HO4.out.next hb6).push (termObj X.names X.wide (.slice E0 X.bools.length r0) (.slice E1 X.nums.length r1) (.slice E2 X.strs.length r2) (.slice E3 X.exts.length r3)))
              have HM5' := Lib.hid (HM5.out.below (below_alloc w6 (termObj X.names X.wide (.slice E0 X.bools.length r0) (.slice E1 X.nums.length r1) (.slice E2 X.strs.length r2) (.slice E3 X.exts.length r3))))
              have HY := Lib.hid (hY.below (below_alloc w6 (termObj X.names X.wide (.slice E0 X.bools.length r0) (.slice E1 X.nums.length r1) (.slice E2 X.strs.length r2) (.slice E3 X.exts.length r3))))
              clear hval hY hTB hb6
              go_wp2_with fail
              refine (CRX.out _ HO5.out.tabs).mono ?_
              rintro e w7 ⟨zv, zve, he, hZ0, hb7⟩
              obtain ⟨F0, s0, F1, s1, F2, s2, F3, s3, hval, hZ⟩ := hZ0.slices
              rw [hval] at he
              subst he
              have HO6 := Lib.hid ((HO5.out.next hb7).push (termObj X.names X.wide (.slice F0 X.bools.length s0) (.slice F1 X.nums.length s1) (.slice F2 X.strs.length s2) (.slice F3 X.exts.length s3)))
              have HM6 := Lib.hid ((HM5'.out.below hb7).below (below_alloc w7 (termObj X.names X.wide (.slice F0 X.bools.length s0) (.slice F1 X.nums.length s1) (.slice F2 X.strs.length s2) (.slice F3 X.exts.length s3))))
              have HY6 := Lib.hid ((HY.out.below hb7).below (below_alloc w7 (termObj X.names X.wide (.slice F0 X.bools.length s0) (.slice F1 X.nums.length s1) (.slice F2 X.strs.length s2) (.slice F3 X.exts.length s3))))
              have HZ6 := Lib.hid (hZ.below (below_alloc w7 (termObj X.names X.wide (.slice F0 X.bools.length s0) (.slice F1 X.nums.length s1) (.slice F2 X.strs.length s2) (.slice F3 X.exts.length s3))))
              clear hval hZ0 hZ hb7
              go_wp2_with fail
              refine (live_any _ HO6.out.tabs).mono ?_
              rintro e w8 ⟨rfl, hb8⟩
              have HO7 := Lib.hid (HO6.out.next hb8)
              have HM7 := Lib.hid (HM6.out.below hb8)
              have HY7 := Lib.hid (HY6.out.below hb8)
              have HZ7 := Lib.hid (HZ6.out.below hb8)
              have HV7 := Lib.hid (HV.out.below HO7.out.below)
              clear hb8
              obtain ⟨c0, c1, c2, c3, c4, c5⟩ := HO7.out.term (.tail _ (.tail _ (.tail _ (.tail _ (.head _)))))
              obtain ⟨d0, d1, d2, d3, d4, d5⟩ := HO7.out.term (.tail _ (.tail _ (.head _)))
              go_wp2_with fail
              refine (eqc_true _ _ _ _ (HV7.out.caps 0 (by omega)) (HM7.out.caps 0 (by omega))).mono ?_
              rintro e w9 ⟨rfl, hb⟩
              have HO8 := Lib.hid (HO7.out.next hb)
              have HM8 := Lib.hid (HM7.out.below hb)
              have HY8 := Lib.hid (HY7.out.below hb)
              have HZ8 := Lib.hid (HZ7.out.below hb)
              have HV8 := Lib.hid (HV7.out.below hb)
              clear hb c0 c1 c2 c3 c4 c5 d0 d1 d2 d3 d4 d5
              obtain ⟨c0, c1, c2, c3, c4, c5⟩ := HO8.out.term (.tail _ (.tail _ (.tail _ (.tail _ (.head _)))))
              obtain ⟨d0, d1, d2, d3, d4, d5⟩ := HO8.out.term (.tail _ (.tail _ (.head _)))
              go_wp2_with fail
              refine (eqc_true _ _ _ _ (HV8.out.caps 1 (by omega)) (HM8.out.caps 1 (by omega))).mono ?_
              rintro e w10 ⟨rfl, hb⟩
              have HO9 := Lib.hid (HO8.out.next hb)
              have HM9 := Lib.hid (HM8.out.below hb)
              have HY9 := Lib.hid (HY8.out.below hb)
              have HZ9 := Lib.hid (HZ8.out.below hb)
              have HV9 := Lib.hid (HV8.out.below hb)
              clear hb c0 c1 c2 c3 c4 c5 d0 d1 d2 d3 d4 d5
              obtain ⟨c0, c1, c2, c3, c4, c5⟩ := HO9.out.term (.tail _ (.tail _ (.tail _ (.tail _ (.head _)))))
              obtain ⟨d0, d1, d2, d3, d4, d5⟩ := HO9.out.term (.tail _ (.tail _ (.head _)))
              go_wp2_with fail
              refine (eqc_true _ _ _ _ (HV9.out.caps 2 (by omega)) (HM9.out.caps 2 (by omega))).mono ?_
              rintro e w11 ⟨rfl, hb⟩
              have HO10 := Lib.hid (HO9.out.next hb)
              have HM10 := Lib.hid (HM9.out.below hb)
              have HY10 := Lib.hid (HY9.out.below hb)
              have HZ10 := Lib.hid (HZ9.out.below hb)
              have HV10 := Lib.hid (HV9.out.below hb)
              clear hb c0 c1 c2 c3 c4 c5 d0 d1 d2 d3 d4 d5
              obtain ⟨c0, c1, c2, c3, c4, c5⟩ := HO10.out.term (.tail _ (.tail _ (.tail _ (.tail _ (.head _)))))
              obtain ⟨d0, d1, d2, d3, d4, d5⟩ := HO10.out.term (.tail _ (.tail _ (.head _)))
              go_wp2_with fail
              refine (eqe_true _ _ _ _ HV10.out.exts HM10.out.exts).mono ?_
              rintro e w12 ⟨rfl, hb⟩
              have HO11 := Lib.hid (HO10.out.next hb)
              have HM11 := Lib.hid (HM10.out.below hb)
              have HY11 := Lib.hid (HY10.out.below hb)
              have HZ11 := Lib.hid (HZ10.out.below hb)
              have HV11 := Lib.hid (HV10.out.below hb)
              clear hb c0 c1 c2 c3 c4 c5 d0 d1 d2 d3 d4 d5
              obtain ⟨c0, c1, c2, c3, c4, c5⟩ := HO11.out.term (.tail _ (.head _))
              obtain ⟨d0, d1, d2, d3, d4, d5⟩ := HO11.out.term (.head _)
              go_wp2_with fail
              refine (refSame_eq _ X _ _ _ _ HY11.out HZ11.out).mono ?_
              rintro e w13 ⟨rfl, hb⟩
              have HF := Lib.hid (HO11.out.next hb).below
              clear hb c0 c1 c2 c3 c4 c5 d0 d1 d2 d3 d4 d5
              go_wp2_with fail
              go_ret
              exact ⟨rfl, HF.out⟩
end Go.Proofs.YtcfgppjhgobboaaGreatDoor
