/-
  What the statements begin with: a first file is kept in its directory.
-/
import Derived.Test.YthpkfgjjaieikaaGreatDoorFsWrite
import Derived.Laws.BytesArg
import Derived.Laws.Cover4
import Derived.Lib.SlBytesConst
namespace Go.Proofs.YthpkfgjjaieikaaGreatDoor
open Go.RowKit Go.Shelf Go.Lib Go.Maps

theorem FsAt.tight {w : World} {FP : Nat → Prop} {b bm : Nat} {es : List Ent} {s : St} (h : FsAt w FP b bm es s) : FsAt w (fun k => FP k ∧ k < w.heap.size) b bm es s :=
  ⟨h.cells, ⟨h.own, h.lt⟩, ⟨h.ownm, h.files.map.lt⟩, h.files.map, fun x hx => ⟨(h.files.rows x hx).1, fun k hk => ⟨(h.files.rows x hx).2 k hk, (h.files.rows x hx).1.block k hk⟩⟩, h.files.apart, h.files.small⟩
theorem strOf_bytes (l : List UInt8) : strOfNums (l.map fun x => (x.toNat : Int)) = ⟨l.toArray⟩ := by
  have e : ((l.map fun x => (x.toNat : Int)).map fun n => UInt8.ofNat n.toNat) = l := by
    induction l with
    | nil => rfl
    | cons x l ih => simp only [List.map_cons, ih, Int.toNat_natCast, UInt8.ofNat_toNat]
  unfold strOfNums
  rw [e]
/-- the string of bytes that are read -/
theorem conv_reads {w : World} {v : Value} {c : List UInt8} (h : Reads w v c) : (convert 30 9 v).run Tryz.prog w = .ok (str c) w := by
  obtain ⟨A, cap, rfl, _, _, hcells⟩ := h
  by_cases h0 : 0 < c.length
  · obtain ⟨b, off, rfl, _, hcell⟩ := hcells h0
    have := run_convert_bytes_arg (P := Tryz.prog) w 30 5 Tryz.underlying30 Tryz.underlying5 b off c.length cap (c.map fun x => (x.toNat : Int)) (by simp)
      (fun i hi => hcell i _ (by simp [byteVals, hi])) 9 Tryz.underlying9
    rw [this, strOf_bytes]
  · obtain rfl : c = [] := List.eq_nil_of_length_eq_zero (by omega)
    rw [run_convert_bytes_string (P := Tryz.prog) w 30 9 5 A _ cap Tryz.underlying30 Tryz.underlying5 Tryz.underlying9]
    cases A with
    | none => simp [Conv.bytesToString]; rfl
    | some a => exact run_bytesToString w a 0 cap [] (by simp [loadCells, loadCellsFrom])
theorem Reads.touch {T : Nat → Prop} {w w' : World} {base : Nat} {v : Value} {c : List UInt8} (h : w.ownsRow base 5 1 v c.length (byteVals c)) (ht : Touch T w w') (hT : ∀ k, T k → k < base) : Reads w' v c :=
  Reads.of_row (base := base) (row_kept h fun k hk => ht.block k (h.lt k hk).2 fun hk2 => by have := hT k hk2; have := (h.lt k hk).1; omega)

/-- the bytes of a constant -/
theorem reads_const (w : World) (c : List UInt8) (fr : Nat × Nat) : Reads (w.alloc (.cells (byteVals c).toArray 5 fr)) (.slice (some ⟨w.heap.size, 0, none⟩) c.length c.length) c := by
  refine ⟨_, _, rfl, Nat.le_refl _, (fun h => by cases h), fun _ => ⟨w.heap.size, 0, rfl, by simp, fun j u hu => ?_⟩⟩
  rw [cell_of_row _ w.heap.size (0 + j) (byteVals c).toArray _ fr (World.alloc_heap_new w _), Nat.zero_add]
  simpa using hu
theorem Reads.kept {T : Nat → Prop} {w w' : World} {v : Value} {c : List UInt8} (h : Reads w v c) (ht : Touch T w w') (hT : ∀ k, k < w.heap.size → (∃ A n cap off, v = .slice (some A) n cap ∧ A = ⟨k, off, none⟩) → ¬ T k) : Reads w' v c := by
  obtain ⟨A, cap, rfl, h1, h2, h3⟩ := h
  refine ⟨A, cap, rfl, h1, h2, fun hp => ?_⟩
  obtain ⟨k, off, rfl, hk, hc⟩ := h3 hp
  exact ⟨k, off, rfl, Nat.lt_of_lt_of_le hk ht.size, fun j u hu => (ht.cell (p := ⟨k, off + j, none⟩) hk (hT k hk ⟨_, _, _, _, rfl, rfl⟩)).trans (hc j u hu)⟩

def BegunPost (w : World) (e : Ending) (w' : World) : Prop := e = .returned (.bool true) ∧ Below w.heap.size w w'

set_option maxRecDepth 100000 in
set_option maxHeartbeats 2000000 in
theorem begun_any (w : World) : Calls Tryz.prog 8 #[] w (BegunPost w) := by
  have hcc : ∀ W : World, (convert 30 30 (.slice (some ⟨W.heap.size, 0, none⟩) 2 2)).run Tryz.prog (W.alloc (.cells #[.int .u8 120, .int .u8 121] 5)) = .ok (.slice (some ⟨W.heap.size, 0, none⟩) 2 2) (W.alloc (.cells #[.int .u8 120, .int .u8 121] 5 (2, 3))) :=
    fun W => run_convert_bytes_const W _ _ _ 2 2 Tryz.underlying30 Tryz.underlying5
  go_enter Tryz.func8, Tryz.ntmps8
  go_wp2_with (first
    | (go_at_call 7; refine (new_any _).mono ?_; rintro e w1 ⟨b, bm, rfl, hF1, hb1⟩; have HF1 := Lib.hid hF1.tight; have HB1 := Lib.hid hb1;
       have CW := Lib.hid (write_any (w1.alloc (.cells #[.int .u8 120, .int .u8 121] 5 (2, 3))) _ b bm [] st0 pAB bXY (.slice (some ⟨w1.heap.size, 0, none⟩) 2 2) (hF1.tight.alloc _) st0_ok (by decide) (fun W hT => (reads_const w1 bXY (2, 3)).kept hT (fun k hk h => by obtain ⟨A, n, cap, off, e1, e2⟩ := h; injection e1 with e1; injection e1 with e1; rw [e2] at e1; injection e1 with e1; subst e1; exact fun h => Nat.lt_irrefl _ h.2)) (by decide) (by decide)); rw [put_0] at CW; clear hF1 hb1)
    | (go_at_call 30; refine (CW.out).mono ?_; rintro e w2 ⟨es2, rfl, hF2, hT2, hP2⟩; obtain ⟨x2, rfl⟩ := putEs_0 hP2; have HF2 := Lib.hid hF2; have HT2 := Lib.hid hT2; have CR := Lib.hid (read_any w2 _ b bm [⟨pAB, x2, bXY⟩] st1 pAB hF2 (by unfold StOk st1 st0; decide) (by decide)); rw [read_1] at CR; clear hF2 hT2 hP2)
    | (go_at_call 31; refine (CR.out).mono ?_; rintro e w3 ⟨v3, rfl, hr3, hF3, hT3⟩; have HR3 := Lib.hid hr3; have HF3 := Lib.hid hF3; have HT3 := Lib.hid hT3; have CL := Lib.hid (list_any w3 _ b bm [⟨pAB, x2, bXY⟩] st2 [47] hF3 (by unfold StOk st2 st0; decide) (by decide) (by simp)); rw [list_2] at CL; clear hr3 hF3 hT3)
    | (go_at_call 32; refine (CL.out).mono ?_; rintro e w4 ⟨v4, rfl, hr4, hF4, hT4⟩;
       obtain ⟨g4, cap4, rfl, hc4⟩ : ∃ g cap, v4 = .slice (some ⟨g, 0, none⟩) 1 cap ∧ w4.cell? ⟨g, 0, none⟩ = some (.string ⟨#[97, 47]⟩) := (by rcases id hr4.2 with ⟨_, h0⟩ | ⟨g, cap, cur, e, _⟩; exact absurd h0 (by decide); exact ⟨g, cap, e, hr4.cells (g := g) (by rw [e]; rfl) 0 (.string ⟨#[97, 47]⟩) rfl⟩);
       have hconv : (convert 30 9 v3).run Tryz.prog w4 = .ok (.string ⟨#[120, 121]⟩) w4 := conv_reads (c := bXY) (Reads.touch HR3.out hT4 (fun k hk => by rw [hk]; exact HF2.out.lt));
       have HF4 := Lib.hid hF4; have HT4 := Lib.hid hT4; have CN := Lib.hid (calls_any w4 _ b bm _ st3 hF4); clear hr4 hF4 hT4)
    | (go_at_call 12; refine (CN.out).mono ?_; rintro e w5 ⟨rfl, rfl⟩))
  go_ret
  have hb : w.heap.size ≤ b := HF1.out.own.1
  have h1 := HB1.out.size
  have ha : w1.heap.size ≤ (w1.alloc (.cells #[.int .u8 120, .int .u8 121] 5 (2, 3))).heap.size := by simp
  have h2 := HT2.out.size
  have h3 := HT3.out.size
  refine ⟨rfl, (((HB1.out.alloc h1 _).trans (HT2.out.below (Nat.le_trans h1 ha) fun k hk => hk.1)).trans (HT3.out.below (Nat.le_trans h1 (Nat.le_trans ha h2)) fun k hk => by rw [hk]; exact hb)).trans (HT4.out.below (Nat.le_trans h1 (Nat.le_trans ha (Nat.le_trans h2 h3))) fun k hk => by rw [hk]; exact hb)⟩

end Go.Proofs.YthpkfgjjaieikaaGreatDoor
