/-
  A parser whose collection begins anew; a new parser.
-/
import Derived.Test.YtjoiagaadofndaaDoorVpStep
namespace Go.Proofs.YtjoiagaadofndaaDoor
open Go.RowKit Go.Shelf Go.Lib
attribute [local go_sem] Oper.semAt_some

def Raw.fresh (R : Raw) : Raw := { R with pr := 0, fi := 0, L := List.replicate 16 0, c := 0, be := false, i0 := 0, i1 := 0, ni := 0, T := List.replicate 1024 0, nt := 0 }
def zeroSeq : List Value := [.int .u8 0, .int .u8 0] ++ (intVals (List.replicate 16 0) ++ ([.int .i64 0, .bool false, .int .u8 0, .int .u8 0, .int .i64 0] ++ (byteVals (List.replicate 1024 0) ++ [.int .i64 0])))
theorem zeroSeq_cells : Tryd.zeroCells62.toList = zeroSeq := by kernel_rfl
theorem zeroSeq_len : zeroSeq.length = 1048 := by simp only [zeroSeq, List.length_append, intVals_length, byteVals_length, List.length_replicate, List.length_cons, List.length_nil]
theorem fresh_ok {R : Raw} (ok : RawOk R) : RawOk R.fresh ∧ PS.of R.fresh = freshP (PS.of R) :=
  ⟨⟨rfl, by show (List.replicate 1024 (0 : UInt8)).length = 1024; exact List.length_replicate, ok.n3, by show 0 ≤ 16; omega, by show 0 ≤ 2; omega, by show 0 ≤ 1024; omega, fun x hx => (by rw [show R.fresh.L.take R.fresh.c = [] from rfl] at hx; cases hx), ok.st13⟩, rfl⟩
theorem fresh_row {R : Raw} (ok : RawOk R) : R.row.take 7 ++ zeroSeq ++ R.row.drop 1055 = R.fresh.row := by
  rw [List.drop_eq_nil_of_le (by rw [row_length ok]; omega), List.append_nil]
  rfl
theorem zeroSeq_one : ∀ v ∈ zeroSeq, v.oneCell' = true := by
  intro v hv
  simp only [zeroSeq, List.mem_append] at hv
  rcases hv with hv | hv | hv | hv | hv
  · simp at hv; subst hv; rfl
  · exact intVals_one _ v hv
  · simp at hv; rcases hv with rfl | rfl | rfl | rfl | rfl <;> rfl
  · exact byteVals_one _ v hv
  · simp at hv; subst hv; rfl
theorem seq_size : (Tryd.prog.info? 62).map (·.size) = some 1048 := by kernel_rfl
/-- the collection begins anew -/
theorem wpList_store_seq {ops : Array Oper} {rest : List Oper} {o : Oper} {a : Act} {w : World} {Q : Exit → Act → World → Prop} (hgd : o.guard = none) (x y : Operand) (ho : o.op = .store 62 x y) (g : Nat) (S : PS) (hP : ParAt w g S)
    (hx : a.eval x = .pointer (some ⟨g, 7, none⟩)) (hy : a.eval y = .agg Tryd.zeroCells62)
    (h : ∀ w', ParAt w' g (freshP S) → Touch (Only g) w w' → wpList Tryd.prog ops Q rest (a.put o.dst undef) w') : wpList Tryd.prog ops Q (o :: rest) a w := by
  obtain ⟨R, ok, hR, rfl⟩ := hP
  refine wpList_plain hgd fun K hK => ?_
  have hrun := run_storeCells_at Tryd.prog g 7 64 zeroSeq 0 R.row.toArray w hR (by rw [zeroSeq_len, List.size_toArray, row_length ok]; omega) zeroSeq_one
  have hz : Tryd.zeroCells62.size = 1048 := by rw [← Array.length_toList, zeroSeq_cells, zeroSeq_len]
  have hst : (storeVar 62 ⟨g, 7, none⟩ (.agg Tryd.zeroCells62)).run Tryd.prog w = .ok () (w.setRow g R.fresh.row.toArray) := by
    have hrow : (R.row.toArray.toList.take (7 + 0) ++ zeroSeq ++ R.row.toArray.toList.drop (7 + 0 + zeroSeq.length)).toArray = R.fresh.row.toArray := by
      rw [zeroSeq_len, ← fresh_row ok]
    rw [hrow] at hrun
    rw [← zeroSeq_cells] at hrun
    cases hq : Tryd.prog.info? 62 with
    | none => have := seq_size; rw [hq] at this; cases this
    | some i =>
      have hs : i.size = 1048 := by have := seq_size; rw [hq] at this; simpa using this
      simp [storeVar, sizeOf, typeInfo, hq, Value.cells, hs, hz, hrun]
  unfold Oper.wp execOp
  simp only [ho, hx, hy, Instr.storeAt, Instr.sureAddr, Sem.run_bind, Sem.run_pure, Result.andThen_ok, hst]
  refine hK _ _ (h _ ⟨R.fresh, (fresh_ok ok).1, setRow_heap w g _ _ _ _ hR, (fresh_ok ok).2⟩ ?_)
  exact ⟨rfl, rfl, rfl, by simp [World.setRow], fun k _ hk => setRow_other w g k _ hk⟩
end Go.Proofs.YtjoiagaadofndaaDoor
