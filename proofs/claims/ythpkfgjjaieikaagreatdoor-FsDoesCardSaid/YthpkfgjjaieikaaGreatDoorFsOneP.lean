/-
  What an operation of a script keeps: the numbers within their bounds, the files within theirs. No program is walked here, and nothing is assumed.
-/
import Derived.Test.YthpkfgjjaieikaaGreatDoorFsOneD
namespace Go.Proofs.YthpkfgjjaieikaaGreatDoor
open Go.RowKit Go.Shelf Go.Lib Go.Maps

/-- one step on -/
def StNext (s s' : St) : Prop := StOk s' ∧ s'.calls ≤ s.calls + 1
theorem hit_next {s : St} (ho : StOk s) : StOk (hitP s).2 ∧ (hitP s).2.calls = s.calls := by
  obtain ⟨h1, h2, h3, h4, h5, h6, h7, h8⟩ := ho
  unfold hitP
  split
  · exact ⟨⟨h1, h2, h3, h4, h5, h6, h7, h8⟩, rfl⟩
  · split
    · exact ⟨⟨by show 0 ≤ s.left - 1; omega, by show s.left - 1 ≤ _; omega, h3, h4, h5, h6, h7, h8⟩, rfl⟩
    · exact ⟨⟨by show 0 ≤ s.left - 1; omega, by show s.left - 1 ≤ _; omega, h3, h4, h5, h6, h7, h8⟩, rfl⟩
theorem call_ok {s : St} (ho : StOk s) (hc : s.calls ≤ 4000000000000000000) : StOk { s with calls := s.calls + 1 } := by
  obtain ⟨h1, h2, h3, h4, h5, h6, h7, h8⟩ := ho
  exact ⟨h1, h2, h3, h4, h5, h6, by show 0 ≤ s.calls + 1; omega, by show s.calls + 1 ≤ _; omega⟩
theorem next_refl {s : St} (ho : StOk s) : StNext s s := ⟨ho, by omega⟩
theorem start_next {s : St} (g : Bool) (ho : StOk s) (hc : s.calls ≤ 4000000000000000000) : StNext s (startP s g).2 := by
  unfold startP
  split
  · exact next_refl ho
  · split
    · exact next_refl ho
    · have := hit_next (call_ok ho hc)
      exact ⟨this.1, by rw [this.2]; show s.calls + 1 ≤ _; omega⟩
theorem count_next {s : St} (g : Bool) (ho : StOk s) (hc : s.calls ≤ 4000000000000000000) : StNext s (countP s g).2.2 := by
  unfold countP
  split
  · exact next_refl ho
  · split
    · exact next_refl ho
    · have := hit_next (call_ok ho hc)
      exact ⟨this.1, by rw [this.2]; show s.calls + 1 ≤ _; omega⟩
theorem read_st (es : List Ent) (s : St) (p : List UInt8) : (readP es s p).2.2 = (startP s (goodP p)).2 := by
  unfold readP; split; rfl; split <;> rfl
theorem list_st (es : List Ent) (s : St) (p : List UInt8) : (listP es s p).2.2 = (startP s (p == [47] || goodP p)).2 := by
  unfold listP; split; rfl; split; rfl; split <;> rfl
theorem put_st (es : List Ent) (s : St) (p c : List UInt8) (m : Bool) : (putP es s p c m).2.2 = (countP s (goodP p)).2.2 := by
  unfold putP; split; rfl; split <;> rfl
theorem rename_st (es : List Ent) (s : St) (p q : List UInt8) : (renameP es s p q).2.2 = (startP s (goodP p && goodP q)).2 := by
  unfold renameP; split; rfl; split; rfl; split <;> rfl
theorem remove_st (es : List Ent) (s : St) (p : List UInt8) : (removeP es s p).2.2 = (startP s (goodP p)).2 := by
  unfold removeP; split; rfl; split <;> rfl

def OpOk (o : OpD) : Prop := o.k ≤ 9223372036854775807 ∧ o.j ≤ 9223372036854775807
theorem one_next {es es' : List Ent} {s s' : St} {o : OpD} {r : Int} (h : OneRes es s o r es' s') (ho : StOk s) (hc : s.calls ≤ 4000000000000000000) (hk : OpOk o) : StNext s s' := by
  unfold OneRes at h
  split at h
  · rw [h.2.2, read_st]; exact start_next _ ho hc
  split at h
  · rw [h.2.1, put_st]; exact count_next _ ho hc
  split at h
  · rw [h.2.1, put_st]; exact count_next _ ho hc
  split at h
  · have e : s' = (renameP es s o.p o.q).2.2 := by rw [← h]
    rw [e, rename_st]; exact start_next _ ho hc
  split at h
  · have e : s' = (removeP es s o.p).2.2 := by rw [← h]
    rw [e, remove_st]; exact start_next _ ho hc
  split at h
  · rw [h.2.2, list_st]; exact start_next _ ho hc
  split at h
  · rw [h.2.2]
    unfold setP
    split
    · exact next_refl ho
    · split
      · exact next_refl ho
      · obtain ⟨h1, h2, h3, h4, h5, h6, h7, h8⟩ := ho
        have := hk.1
        have := hk.2
        exact ⟨⟨by show 0 ≤ o.k; omega, hk.1, by show 0 ≤ o.i; omega, by show o.i ≤ 3; omega, by show 0 ≤ o.j; omega, hk.2, h7, h8⟩, by show s.calls ≤ s.calls + 1; omega⟩
  split at h
  · rw [h.2.2]
    unfold restartP
    split
    · exact ⟨ho, by show s.calls ≤ s.calls + 1; omega⟩
    · exact next_refl ho
  · rw [h.2.2]; exact next_refl ho

theorem length_del_found {es : List Ent} {p : List UInt8} {x : Ent} (h : findE es p = some x) : (delE p es).length + 1 ≤ es.length := by
  obtain ⟨hx, hp⟩ := findE_mem h
  unfold delE
  have : (es.filter fun x => !(x.path == p)).length < es.length := by
    rw [List.length_filter_lt_length_iff_exists]
    exact ⟨x, hx, by simp [hp]⟩
  omega
theorem put_len {es es' : List Ent} {s : St} {p c : List UInt8} {m : Bool} (h : PutEs es p (putP es s p c m).2.1 es') (hl : es.length ≤ 4096) : es'.length ≤ 4096 := by
  unfold putP at h
  split at h
  · rw [show es' = es from h]; exact hl
  · split at h
    · rw [show es' = es from h]; exact hl
    · next hn =>
      obtain ⟨v, rfl⟩ := h
      have h0 : checkP es p (((putP.oldP es p m).length : Int) + c.length) = 0 := Decidable.byContradiction fun e => hn (.inl e)
      unfold putE
      rw [length_insE]
      show (delE p es).length + 1 ≤ 4096
      cases hf : findE es p with
      | some x => exact Nat.le_trans (length_del_found hf) hl
      | none =>
        have h1 := length_delE p es
        unfold checkP at h0
        rw [hf] at h0
        split at h0
        · cases h0
        · split at h0
          · cases h0
          · split at h0
            · cases h0
            · next h2 => simp at h2; omega
theorem one_len {es es' : List Ent} {s s' : St} {o : OpD} {r : Int} (h : OneRes es s o r es' s') (hl : es.length ≤ 4096) : es'.length ≤ 4096 := by
  unfold OneRes at h
  split at h
  · rw [h.2.1]; exact hl
  split at h
  · exact put_len h.2.2 hl
  split at h
  · exact put_len h.2.2 hl
  split at h
  · have e : es' = (renameP es s o.p o.q).2.1 := by rw [← h]
    rw [e]
    unfold renameP
    split
    · exact hl
    · split
      · exact hl
      · split
        · exact hl
        · cases hf : findE es o.p with
          | none => exact hl
          | some x =>
            show (putE _ (delE o.p es)).length ≤ 4096
            have h1 := length_putE ⟨o.q, x.val, x.data⟩ (delE o.p es)
            have h2 := length_del_found hf
            omega
  split at h
  · have e : es' = (removeP es s o.p).2.1 := by rw [← h]
    rw [e]
    unfold removeP
    split
    · exact hl
    · split
      · exact hl
      · exact Nat.le_trans (length_delE _ _) hl
  split at h
  · rw [h.2.1]; exact hl
  split at h
  · rw [h.2.1]; exact hl
  split at h
  · rw [h.2.1]; exact hl
  · rw [h.2.1]; exact hl

end Go.Proofs.YthpkfgjjaieikaaGreatDoor
