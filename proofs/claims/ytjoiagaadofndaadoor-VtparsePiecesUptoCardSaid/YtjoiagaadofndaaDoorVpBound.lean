/-
  Plain lemmas: all that a parser tells is bounded. No program is spoken of here, and nothing is assumed.
-/
import Derived.Test.YtjoiagaadofndaaDoorVpP
namespace Go.Proofs.YtjoiagaadofndaaDoor

structure SOk (S : PS) : Prop where
  ps16 : S.ps.length ≤ 16
  ints : ∀ x ∈ S.ps, -1 ≤ x ∧ x ≤ 65535
  inter2 : S.inter.length ≤ 2
  text : S.text.length ≤ 1024
structure ActOk (a : ActD) : Prop where
  kind : 1 ≤ a.kind ∧ a.kind ≤ 6
  ps16 : a.ps.length ≤ 16
  ints : ∀ x ∈ a.ps, -1 ≤ x ∧ x ≤ 65535
  inter2 : a.inter.length ≤ 2
  text : a.text.length ≤ 1024
def ROk (S : PS) (r : PS × ActD) : Prop := SOk r.1 ∧ r.1.held = S.held ∧ (r.2.kind = 0 ∨ ActOk r.2)
theorem SOk.act {S : PS} (h : SOk S) {k : Nat} (h1 : 1 ≤ k) (h6 : k ≤ 6) : ActOk (actOf S k) := ⟨⟨h1, h6⟩, h.ps16, h.ints, h.inter2, h.text⟩
theorem exe_ok (b : UInt8) : ActOk (exeA b) := ⟨⟨by show 1 ≤ 2; omega, by show 2 ≤ 6; omega⟩, Nat.zero_le _, (fun x hx => by cases hx), Nat.zero_le _, Nat.zero_le _⟩
theorem print_ok (r : Int) : ActOk (printA r) := ⟨⟨by show 1 ≤ 1; omega, by show 1 ≤ 6; omega⟩, Nat.zero_le _, (fun x hx => by cases hx), Nat.zero_le _, Nat.zero_le _⟩
theorem SOk.setSt {S : PS} (h : SOk S) (k : Nat) : SOk { S with st := k } := ⟨h.ps16, h.ints, h.inter2, h.text⟩
theorem SOk.setFin {S : PS} (h : SOk S) (b : UInt8) : SOk { S with fin := b } := ⟨h.ps16, h.ints, h.inter2, h.text⟩
theorem SOk.setPriv {S : PS} (h : SOk S) (b : UInt8) : SOk { S with priv := b } := ⟨h.ps16, h.ints, h.inter2, h.text⟩
theorem SOk.enter {S : PS} (h : SOk S) (n : Nat) : SOk (enterP S n) := ⟨h.ps16, h.ints, h.inter2, h.text⟩
theorem SOk.fresh (S : PS) : SOk (freshP S) := ⟨by simp [freshP], fun x hx => by simp [freshP] at hx, by simp [freshP], by simp [freshP]⟩
theorem SOk.addInter {S : PS} (h : SOk S) (b : UInt8) : SOk (addInterP S b) ∧ (addInterP S b).held = S.held := by
  unfold addInterP
  split
  · exact ⟨⟨h.ps16, h.ints, by simp; omega, h.text⟩, rfl⟩
  · exact ⟨h, rfl⟩
theorem SOk.addText {S : PS} (h : SOk S) (b : UInt8) : SOk (addTextP S b) ∧ (addTextP S b).held = S.held := by
  unfold addTextP
  split
  · exact ⟨⟨h.ps16, h.ints, h.inter2, by simp; omega⟩, rfl⟩
  · exact ⟨h, rfl⟩
theorem SOk.begin {S : PS} (h : SOk S) : SOk (beginP S) ∧ (beginP S).held = S.held := by
  unfold beginP
  split
  · exact ⟨⟨h.ps16, h.ints, h.inter2, h.text⟩, rfl⟩
  · next hn =>
    have h16 := h.ps16
    refine ⟨⟨by simp; omega, fun x hx => ?_, h.inter2, h.text⟩, rfl⟩
    rcases List.mem_append.1 hx with hx | hx
    · exact h.ints x hx
    · simp at hx; omega
theorem SOk.digit {S : PS} (h : SOk S) (b : UInt8) (hb : 48 ≤ b.toNat) (hne : S.ps ≠ []) : SOk (digitP S b) ∧ (digitP S b).held = S.held := by
  unfold digitP
  split
  · exact ⟨h, rfl⟩
  · have h16 := h.ps16
    have hp := List.length_pos_iff.2 hne
    refine ⟨⟨by simp; omega, fun x hx => ?_, h.inter2, h.text⟩, rfl⟩
    rcases List.mem_append.1 hx with hx | hx
    · exact h.ints x (List.dropLast_subset _ hx)
    · simp at hx
      subst hx
      omega
theorem SOk.begun {S : PS} (h : SOk S) : SOk (begunP S) ∧ (begunP S).held = S.held ∧ (begunP S).ps ≠ [] := by
  unfold begunP
  split
  · next h0 =>
    refine ⟨h.begin.1, h.begin.2, ?_⟩
    unfold beginP
    rw [if_neg (by omega)]
    simp
  · next h0 => exact ⟨h, rfl, fun e => h0 (by rw [e]; rfl)⟩
theorem SOk.putPar {S : PS} (h : SOk S) (b : UInt8) (hb : classP b = 2) : SOk (putParP S b) ∧ (putParP S b).held = S.held := by
  have hg := h.begun
  unfold putParP
  split
  · exact ⟨hg.1.begin.1, hg.1.begin.2.trans hg.2.1⟩
  · have h48 : 48 ≤ b.toNat := by
      unfold classP at hb
      repeat' split at hb
      all_goals first | omega | skip
      all_goals
        rename_i h1 _ _
        have h2 := h1
        rw [UInt8.lt_iff_toNat_lt] at h2
        have : (48 : UInt8).toNat = 48 := rfl
        omega
    exact ⟨(hg.1.digit b h48 hg.2.2).1, (hg.1.digit b h48 hg.2.2).2.trans hg.2.1⟩
theorem ground_ok (b : UInt8) : (groundA b).kind = 0 ∨ ActOk (groundA b) := by
  unfold groundA
  split
  · exact .inr (exe_ok b)
  · split
    · exact .inl rfl
    · exact .inr (print_ok _)
theorem inEscape_ok {S : PS} (h : SOk S) (b : UInt8) : ROk S (inEscapeP S b) := by
  unfold inEscapeP
  split
  · exact ⟨h, rfl, .inr (exe_ok b)⟩
  · split
    · exact ⟨(h.addInter b).1.setSt 2, (h.addInter b).2, .inl rfl⟩
    · split
      · exact ⟨h, rfl, .inl rfl⟩
      · exact ⟨(h.setFin b).setSt 0, rfl, .inr ((h.setFin b).act (by omega) (by omega))⟩
theorem inSeq_ok {S : PS} (h : SOk S) (b : UInt8) : ROk S (inSeqP S b) := by
  unfold inSeqP
  split
  · exact ⟨h, rfl, .inr (exe_ok b)⟩
  · split
    · exact ⟨h, rfl, .inl rfl⟩
    · split
      · exact ⟨(h.setFin b).setSt 0, rfl, .inl rfl⟩
      · split
        · exact ⟨(h.setFin b).setSt 13, rfl, .inl rfl⟩
        · split
          · exact ⟨(h.setFin b).setSt 11, rfl, .inl rfl⟩
          · exact ⟨(h.setFin b).setSt 0, rfl, .inr ((h.setFin b).act (by omega) (by omega))⟩
theorem inOsc_ok {S : PS} (h : SOk S) (b : UInt8) : ROk S (inOscP S b) := by
  unfold inOscP
  split
  · exact ⟨h.setSt 0, rfl, .inr (h.act (by omega) (by omega))⟩
  · split
    · exact ⟨h, rfl, .inl rfl⟩
    · exact ⟨(h.addText b).1, (h.addText b).2, .inl rfl⟩
theorem interTail_ok {S : PS} (h : SOk S) (b : UInt8) : ROk S (interTail S b) := by
  unfold interTail
  split
  · exact ⟨(h.addInter b).1.enter 5, (h.addInter b).2, .inl rfl⟩
  · split
    · exact ⟨h.enter 6, rfl, .inl rfl⟩
    · exact inSeq_ok h b
theorem paramTail_ok {S : PS} (h : SOk S) (b : UInt8) : ROk S (paramTail S b) := by
  unfold paramTail
  split
  · next hb => exact ⟨(h.putPar b hb).1.enter 4, (h.putPar b hb).2, .inl rfl⟩
  · exact interTail_ok h b
theorem inState_ok {S : PS} (h : SOk S) (b : UInt8) : ROk S (inStateP S b) := by
  unfold inStateP
  split
  · exact ⟨h, rfl, ground_ok b⟩
  · split
    · exact ⟨h.setSt _, rfl, .inl rfl⟩
    · exact inEscape_ok h b
  · exact inEscape_ok h b
  · split
    · exact ⟨(h.setPriv b).enter 4, rfl, .inl rfl⟩
    · exact paramTail_ok h b
  · split
    · exact ⟨(h.setPriv b).enter 4, rfl, .inl rfl⟩
    · exact paramTail_ok h b
  · exact paramTail_ok h b
  · exact paramTail_ok h b
  · exact interTail_ok h b
  · exact interTail_ok h b
  · exact inSeq_ok h b
  · exact inSeq_ok h b
  · split
    · exact ⟨(h.addText b).1, (h.addText b).2, .inl rfl⟩
    · exact ⟨h, rfl, .inl rfl⟩
  · exact inOsc_ok h b
  · exact ⟨h, rfl, .inl rfl⟩
theorem step_ok {S : PS} (h : SOk S) (b : UInt8) : ROk S (stepP S b) := by
  unfold stepP
  split
  · exact ⟨h.setSt 0, rfl, .inr (exe_ok b)⟩
  · split
    · refine ⟨(SOk.fresh S).setSt 1, rfl, ?_⟩
      unfold endTextA
      split
      · exact .inr (h.act (by omega) (by omega))
      · split
        · exact .inr (h.act (by omega) (by omega))
        · exact .inl rfl
    · exact inState_ok h b
theorem one_ok {a : ActD} (h : a.kind = 0 ∨ ActOk a) : ∀ x ∈ oneA a, ActOk x := by
  intro x hx
  unfold oneA at hx
  split at hx
  · cases hx
  · next hk =>
    simp at hx
    subst hx
    exact h.resolve_left hk
theorem prints_ok (l : List Int) : ∀ x ∈ printsP l, ActOk x := by
  intro x hx
  simp only [printsP, List.mem_map] at hx
  obtain ⟨r, _, rfl⟩ := hx
  exact print_ok r
theorem prints_le (l : List Int) : (printsP l).length ≤ l.length := by
  simp only [printsP, List.length_map]
  exact List.length_filter_le _ _
theorem one_le (a : ActD) : (oneA a).length ≤ 1 := by
  unfold oneA
  split <;> simp
theorem take_ok {S : PS} (h : SOk S) (b : UInt8) : SOk (takeP S b).1 ∧ (∀ x ∈ (takeP S b).2, ActOk x) ∧ (takeP S b).2.length + (takeP S b).1.held.length ≤ S.held.length + 1 := by
  unfold takeP
  split
  · have h1 := (putAll_rest (S.held ++ [b])).2
    have h2 := prints_le (putAll (S.held ++ [b])).1
    rw [List.length_append] at h1
    refine ⟨⟨h.ps16, h.ints, h.inter2, h.text⟩, prints_ok _, ?_⟩
    simp at h1 ⊢
    omega
  · split
    · have hs := step_ok (S := { S with held := [] }) ⟨h.ps16, h.ints, h.inter2, h.text⟩ b
      have h1 := decAll_le S.held
      have h2 := prints_le (decAll S.held)
      have h3 := one_le (stepP { S with held := [] } b).2
      refine ⟨hs.1, fun x hx => ?_, ?_⟩
      · rcases List.mem_append.1 hx with hx | hx
        · exact prints_ok _ x hx
        · exact one_ok hs.2.2 x hx
      · simp only [List.length_append]
        rw [hs.2.1]
        simp
        omega
    · have hs := step_ok h b
      have h3 := one_le (stepP S b).2
      refine ⟨hs.1, one_ok hs.2.2, ?_⟩
      simp only
      rw [hs.2.1]
      omega
theorem put_ok (l : List UInt8) : ∀ {S : PS}, SOk S → SOk (putPS S l).1 ∧ (∀ x ∈ (putPS S l).2, ActOk x) ∧ (putPS S l).2.length + (putPS S l).1.held.length ≤ S.held.length + l.length := by
  induction l with
  | nil => intro S h; exact ⟨h, (fun x hx => by cases hx), by simp [putPS]⟩
  | cons b l ih =>
    intro S h
    obtain ⟨h1, h2, h3⟩ := take_ok h b
    obtain ⟨k1, k2, k3⟩ := ih h1
    refine ⟨k1, fun x hx => ?_, ?_⟩
    · rcases List.mem_append.1 hx with hx | hx
      · exact h2 x hx
      · exact k2 x hx
    · simp only [putPS, List.length_append, List.length_cons]
      omega
theorem ps0_ok : SOk ps0 := ⟨Nat.zero_le _, (fun x hx => by cases hx), Nat.zero_le _, Nat.zero_le _⟩
theorem all_ok (l : List UInt8) : (∀ x ∈ allP l, ActOk x) ∧ (allP l).length ≤ l.length := by
  obtain ⟨_, h2, h3⟩ := put_ok l ps0_ok
  have h4 := decAll_le (putPS ps0 l).1.held
  have h5 := prints_le (decAll (putPS ps0 l).1.held)
  refine ⟨fun x hx => ?_, ?_⟩
  · rcases List.mem_append.1 hx with hx | hx
    · exact h2 x hx
    · exact prints_ok _ x hx
  · simp only [allP, List.length_append]
    have h0 : ps0.held.length = 0 := rfl
    rw [h0] at h3
    omega
theorem many_le (l : List UInt8) : ((putPS ps0 l).2).length ≤ l.length := by
  have h3 := (put_ok l ps0_ok).2.2
  have h0 : ps0.held.length = 0 := rfl
  rw [h0] at h3
  omega
end Go.Proofs.YtjoiagaadofndaaDoor
