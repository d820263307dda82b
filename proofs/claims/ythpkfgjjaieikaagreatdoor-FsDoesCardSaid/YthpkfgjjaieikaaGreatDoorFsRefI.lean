/-
  What the document's Write and Append return and change, for every file system and whatever is to be written. Nothing is assumed.
-/
import Derived.Test.YthpkfgjjaieikaaGreatDoorFsRefG
import Derived.Test.YthpkfgjjaieikaaGreatDoorFsRefH
namespace Go.Proofs.YthpkfgjjaieikaaGreatDoor
open Go.RowKit Go.Shelf Go.Lib Go.Maps

section
variable {w : World} {FR : Nat → Prop} {rb : Nat} {v : Value} {fs : List Ent} {r : RSt}

set_option maxRecDepth 100000 in
set_option maxHeartbeats 1000000 in
theorem wr_bad (h : RefV w FR rb v fs r) {p c : List UInt8} {A9 : Option Addr} {cap9 : Nat} (more : Bool) (hl : looksR r [p] ≠ 0) :
    Calls Tryz.prog 101 #[.pointer (some ⟨rb, 0, none⟩), str p, .slice A9 c.length cap9, .bool more] w (WrRPost w FR rb fs p (looksR r [p], none, r)) := by
  have CL := refLooks1_any h p
  obtain ⟨w1, hw1⟩ : ∃ w1, w1 = w.alloc (.cells #[str p] 9) := ⟨_, rfl⟩
  have h1 : RefV w1 FR rb v fs r := by rw [hw1]; exact h.alloc _
  have T1 : Touch (fun k => k = rb) w w1 := by rw [hw1]; exact Touch.alloc _ _ _
  rw [← hw1] at CL
  generalize looksR r [p] = l at CL hl
  have hq1 : (l == 0) = false := by simpa using hl
  have hq2 : (l != 0) = true := by simpa using hl
  have CL := Lib.hid CL
  have HF1 := Lib.hid h1
  have HT1 := Lib.hid T1
  have HW1 := Lib.hid hw1
  have HOWN := Lib.hid h.own
  clear h h1 T1 hw1 hl
  go_enter Tryz.func101, Tryz.ntmps101
  go_wp2_with (go_at_call 96; rw [← HW1.out]; refine (CL.out).mono ?_; rintro e w' ⟨rfl, rfl⟩)
  go_ret
  exact ⟨_, _, rfl, HF1.out.more fun j hj => .inl hj, rb_own HOWN.out HT1.out, rfl⟩

theorem writes_bad {p c : List UInt8} {more : Bool} (hl : looksR r [p] ≠ 0) : writesR fs r p c more = (looksR r [p], none, r) := by
  unfold writesR
  unfold looksR at hl ⊢
  cases hd : r.down with
  | true => rfl
  | false =>
    cases hg : goodP p with
    | true => rw [hd] at hl; simp [hg] at hl
    | false => simp [hg]
theorem free_two (fs : List Ent) (p : List UInt8) : freeR fs p = 0 ∨ freeR fs p = 24 := by
  unfold freeR
  split
  · exact .inr rfl
  · split
    · exact .inr rfl
    · exact .inl rfl

theorem refWrites_any (h : RefV w FR rb v fs r) (hrise : Rising fs) (ho : ROk r) (p c : List UInt8) (A9 : Option Addr) (cap9 : Nat) (hv : ∀ W, Touch FR w W → Reads W (.slice A9 c.length cap9) c) (hcl : c.length ≤ 140737488355328) (more : Bool) :
    Calls Tryz.prog 101 #[.pointer (some ⟨rb, 0, none⟩), str p, .slice A9 c.length cap9, .bool more] w (WrRPost w FR rb fs p (writesR fs r p c more)) := by
  by_cases hl : looksR r [p] = 0
  · rw [writes_is hl]
    obtain ⟨k, hk⟩ : ∃ k, (callR r).1 = k := ⟨_, rfl⟩
    obtain ⟨r1, hr1⟩ : ∃ r1, (callR r).2 = r1 := ⟨_, rfl⟩
    have hcr : callR r = (k, r1) := by rw [← hk, ← hr1]
    rw [hk, hr1]
    have hne24 : ∀ n h', freeR fs p = 24 → fitR fs p n h' = 24 := fun n h' e => by unfold fitR; rw [e, if_neg (fun e => absurd e.1 (by decide))]
    cases hx : findE fs p with
    | none =>
      have hlook : lookR fs p = none := by unfold lookR; rw [hx]; rfl
      have hhad : hadR fs p more = [] := by unfold hadR; rw [hlook]; cases more <;> rfl
      rw [hhad]
      by_cases h1 : k = 1
      · cases more with
        | false => exact wr_nf_1any h hrise ho hv hcl hl hcr hx h1
        | true => exact wr_nt_1any h hrise ho hv hcl hl hcr hx h1
      · rcases free_two fs p with hf | hf
        · by_cases hbig : (1048576 : Int) < (c.length : Int)
          · have hfit : fitR fs p c.length ([] : List UInt8).length = 3 := by unfold fitR; rw [if_pos ⟨hf, .inl (by simpa using hbig)⟩]
            rw [hfit]
            by_cases h0 : k = 0
            · cases more with
              | false => exact wr_nf_0big h hrise ho hv hcl hl hcr hx h0 hf hbig
              | true => exact wr_nt_0big h hrise ho hv hcl hl hcr hx h0 hf hbig
            · cases more with
              | false => exact wr_nf_nbig h hrise ho hv hcl hl hcr hx h0 h1 hf hbig
              | true => exact wr_nt_nbig h hrise ho hv hcl hl hcr hx h0 h1 hf hbig
          · by_cases hfull : 4096 ≤ fs.length
            · have hfit : fitR fs p c.length ([] : List UInt8).length = 3 := by unfold fitR; rw [if_pos ⟨hf, .inr ⟨by rw [hx]; rfl, hfull⟩⟩]
              rw [hfit]
              by_cases h0 : k = 0
              · cases more with
                | false => exact wr_nf_0full h hrise ho hv hcl hl hcr hx h0 hf hbig hfull
                | true => exact wr_nt_0full h hrise ho hv hcl hl hcr hx h0 hf hbig hfull
              · cases more with
                | false => exact wr_nf_nfull h hrise ho hv hcl hl hcr hx h0 h1 hf hbig hfull
                | true => exact wr_nt_nfull h hrise ho hv hcl hl hcr hx h0 h1 hf hbig hfull
            · have hfit : fitR fs p c.length ([] : List UInt8).length = 0 := by
                unfold fitR
                rw [if_neg, hf]
                rintro ⟨_, e | e⟩
                · exact hbig (by simpa using e)
                · exact hfull e.2
              rw [hfit]
              have hroom : fs.length < 4096 := by omega
              by_cases h0 : k = 0
              · cases more with
                | false => exact wr_nf_0ok h hrise ho hv hcl hl hcr hx h0 hf hbig hroom
                | true => exact wr_nt_0ok h hrise ho hv hcl hl hcr hx h0 hf hbig hroom
              · by_cases hcut : r.keep < (c.length : Int)
                · cases more with
                  | false => exact wr_nf_nokC h hrise ho hv hcl hl hcr hx h0 h1 hf hbig hroom hcut
                  | true => exact wr_nt_nokC h hrise ho hv hcl hl hcr hx h0 h1 hf hbig hroom hcut
                · cases more with
                  | false => exact wr_nf_nokN h hrise ho hv hcl hl hcr hx h0 h1 hf hbig hroom hcut
                  | true => exact wr_nt_nokN h hrise ho hv hcl hl hcr hx h0 h1 hf hbig hroom hcut
        · rw [hne24 _ _ hf]
          by_cases h0 : k = 0
          · cases more with
            | false => exact wr_nf_0dir h hrise ho hv hcl hl hcr hx h0 hf
            | true => exact wr_nt_0dir h hrise ho hv hcl hl hcr hx h0 hf
          · cases more with
            | false => exact wr_nf_ndir h hrise ho hv hcl hl hcr hx h0 h1 hf
            | true => exact wr_nt_ndir h hrise ho hv hcl hl hcr hx h0 h1 hf
    | some x =>
      have hlook : lookR fs p = some x.data := by unfold lookR; rw [hx]; rfl
      cases more with
      | false =>
        have hhad : hadR fs p false = [] := rfl
        rw [hhad]
        by_cases h1 : k = 1
        · exact wr_sf_1any h hrise ho hv hcl hl hcr hx h1
        · rcases free_two fs p with hf | hf
          · by_cases hbig : (1048576 : Int) < (c.length : Int)
            · have hfit : fitR fs p c.length ([] : List UInt8).length = 3 := by unfold fitR; rw [if_pos ⟨hf, .inl (by simpa using hbig)⟩]
              rw [hfit]
              by_cases h0 : k = 0
              · exact wr_sf_0big h hrise ho hv hcl hl hcr hx h0 hf hbig
              · exact wr_sf_nbig h hrise ho hv hcl hl hcr hx h0 h1 hf hbig
            · have hfit : fitR fs p c.length ([] : List UInt8).length = 0 := by
                unfold fitR
                rw [if_neg, hf]
                rintro ⟨_, e | e⟩
                · exact hbig (by simpa using e)
                · rw [hx] at e; exact absurd e.1 (by simp)
              rw [hfit]
              by_cases h0 : k = 0
              · exact wr_sf_0ok h hrise ho hv hcl hl hcr hx h0 hf hbig
              · by_cases hcut : r.keep < (c.length : Int)
                · exact wr_sf_nokC h hrise ho hv hcl hl hcr hx h0 h1 hf hbig hcut
                · exact wr_sf_nokN h hrise ho hv hcl hl hcr hx h0 h1 hf hbig hcut
          · rw [hne24 _ _ hf]
            by_cases h0 : k = 0
            · exact wr_sf_0dir h hrise ho hv hcl hl hcr hx h0 hf
            · exact wr_sf_ndir h hrise ho hv hcl hl hcr hx h0 h1 hf
      | true =>
        have hhad : hadR fs p true = x.data := by unfold hadR; rw [hlook]; rfl
        rw [hhad]
        by_cases h1 : k = 1
        · exact wr_st_1any h hrise ho hv hcl hl hcr hx h1
        · rcases free_two fs p with hf | hf
          · by_cases hbig : (1048576 : Int) - (x.data.length : Int) < (c.length : Int)
            · have hfit : fitR fs p c.length x.data.length = 3 := by unfold fitR; rw [if_pos ⟨hf, .inl hbig⟩]
              rw [hfit]
              by_cases h0 : k = 0
              · exact wr_st_0big h hrise ho hv hcl hl hcr hx h0 hf hbig
              · exact wr_st_nbig h hrise ho hv hcl hl hcr hx h0 h1 hf hbig
            · have hfit : fitR fs p c.length x.data.length = 0 := by
                unfold fitR
                rw [if_neg, hf]
                rintro ⟨_, e | e⟩
                · exact hbig e
                · rw [hx] at e; exact absurd e.1 (by simp)
              rw [hfit]
              by_cases h0 : k = 0
              · exact wr_st_0ok h hrise ho hv hcl hl hcr hx h0 hf hbig
              · by_cases hcut : r.keep < (c.length : Int)
                · exact wr_st_nokC h hrise ho hv hcl hl hcr hx h0 h1 hf hbig hcut
                · exact wr_st_nokN h hrise ho hv hcl hl hcr hx h0 h1 hf hbig hcut
          · rw [hne24 _ _ hf]
            by_cases h0 : k = 0
            · exact wr_st_0dir h hrise ho hv hcl hl hcr hx h0 hf
            · exact wr_st_ndir h hrise ho hv hcl hl hcr hx h0 h1 hf
  · rw [writes_bad hl]
    exact wr_bad h more hl

set_option maxRecDepth 100000 in
theorem refWrite_any (h : RefV w FR rb v fs r) (hrise : Rising fs) (ho : ROk r) (p c : List UInt8) (A9 : Option Addr) (cap9 : Nat) (hv : ∀ W, Touch FR w W → Reads W (.slice A9 c.length cap9) c) (hcl : c.length ≤ 140737488355328) :
    Calls Tryz.prog 34 #[.pointer (some ⟨rb, 0, none⟩), str p, .slice A9 c.length cap9] w (WrRPost w FR rb fs p (writesR fs r p c false)) := by
  have CW := Lib.hid (refWrites_any h hrise ho p c A9 cap9 hv hcl false)
  clear h hrise ho hv hcl
  go_enter Tryz.func34, Tryz.ntmps34
  go_wp2_with (go_at_call 101; refine (CW.out).mono ?_; rintro e w' ⟨v', fs', rfl, h1, h2, h3⟩; have H1 := Lib.hid h1; have H2 := Lib.hid h2; have H3 := Lib.hid h3; clear h1 h2 h3)
  go_ret
  exact ⟨v', fs', rfl, H1.out, H2.out, H3.out⟩
set_option maxRecDepth 100000 in
theorem refAppend_any (h : RefV w FR rb v fs r) (hrise : Rising fs) (ho : ROk r) (p c : List UInt8) (A9 : Option Addr) (cap9 : Nat) (hv : ∀ W, Touch FR w W → Reads W (.slice A9 c.length cap9) c) (hcl : c.length ≤ 140737488355328) :
    Calls Tryz.prog 36 #[.pointer (some ⟨rb, 0, none⟩), str p, .slice A9 c.length cap9] w (WrRPost w FR rb fs p (writesR fs r p c true)) := by
  have CW := Lib.hid (refWrites_any h hrise ho p c A9 cap9 hv hcl true)
  clear h hrise ho hv hcl
  go_enter Tryz.func36, Tryz.ntmps36
  go_wp2_with (go_at_call 101; refine (CW.out).mono ?_; rintro e w' ⟨v', fs', rfl, h1, h2, h3⟩; have H1 := Lib.hid h1; have H2 := Lib.hid h2; have H3 := Lib.hid h3; clear h1 h2 h3)
  go_ret
  exact ⟨v', fs', rfl, H1.out, H2.out, H3.out⟩
end

end Go.Proofs.YthpkfgjjaieikaaGreatDoor
