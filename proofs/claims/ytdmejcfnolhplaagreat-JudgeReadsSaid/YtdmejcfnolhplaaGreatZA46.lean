/-
  Some texts of this claim, one behind the other: ProofByte, ProofRefLeaves. What each proves, and its condition, stands at its head.
-/
import Derived.Test.YtdmejcfnolhplaaGreatZA16
import Derived.Test.YtdmejcfnolhplaaGreatZA10
import Derived.Test.YtdmejcfnolhplaaGreatZA19
import Derived.Test.YtdmejcfnolhplaaGreatZA25
import Derived.Test.YtdmejcfnolhplaaGreatZA22
import Derived.Test.YtdmejcfnolhplaaGreatZA17
import Derived.Test.YtdmejcfnolhplaaGreatZA21
/-
  Plain mathematics of proofs as bytes: what is written, what is read, what was written is read, and what is read was written so. No program.
-/
namespace Go.Proofs.YtdmejcfnolhplaaGreat.Proof
open Go.RowKit Go.Lib Go.Proofs.YtdmejcfnolhplaaGreat.Need Go.Proofs.YtdmejcfnolhplaaGreat.Pick Go.Proofs.YtdmejcfnolhplaaGreat.Wire
open Go.Proofs.YtdmejcfnolhplaaGreat.Vlq (held closedM numM strM)
open Go.Proofs.YtdmejcfnolhplaaGreat.Label (runes fitL)
set_option linter.unusedVariables false
def okPf (l : List Sp) : Bool := decide (l.length ≤ 1048576) && ((List.range l.length).all fun i => match l[i]? with | some s => mayS s i | none => true) && decide (1 ≤ l.length)
theorem okPf_steps {l : List Sp} (h : okPf l = true) : l.length ≤ 1048576 ∧ OkSteps l ∧ 1 ≤ l.length := by
  unfold okPf at h
  simp only [Bool.and_eq_true, decide_eq_true_eq, List.all_eq_true, List.mem_range] at h
  refine ⟨h.1.1, fun i s hs => ?_, h.2⟩
  have := h.1.2 i (List.getElem?_eq_some_iff.1 hs).1
  rw [hs] at this
  exact this
theorem okPf_of {l : List Sp} (h1 : l.length ≤ 1048576) (h2 : OkSteps l) (h3 : 1 ≤ l.length) : okPf l = true := by
  unfold okPf
  simp only [Bool.and_eq_true, decide_eq_true_eq, List.all_eq_true, List.mem_range]
  refine ⟨⟨h1, fun i hi => ?_⟩, h3⟩
  have e : l[i]? = some l[i] := by simp
  rw [e]
  exact h2 i _ e
theorem okPf_not {l : List Sp} {i : Nat} {s : Sp} (hs : l[i]? = some s) (hm : mayS s i = false) : okPf l = false := by
  cases h : okPf l with
  | false => rfl
  | true =>
    have := (okPf_steps h).2.1 i s hs
    rw [hm] at this
    cases this
theorem okPf_long {l : List Sp} (h : 1048576 < l.length) : okPf l = false := by
  cases h2 : okPf l with
  | false => rfl
  | true => have := (okPf_steps h2).1; omega
theorem okPf_all {l : List Sp} (h1 : l.length ≤ 1048576) (h2 : OkSteps l) : okPf l = decide (1 ≤ l.length) := by
  by_cases h3 : 1 ≤ l.length
  · rw [okPf_of h1 h2 h3, decide_eq_true h3]
  · unfold okPf
    rw [decide_eq_false h3, Bool.and_false]
/-! What is written. -/
def StepOk (s : Sp) : Prop := (1 ≤ s.kind ∧ s.kind ≤ 4) ∧ s.name.size ≤ 24 ∧ (s.kind = 3 → (0 ≤ s.ver ∧ s.ver ≤ 1000000000) ∧ s.dest.size ≤ 24) ∧ (s.kind ≠ 3 → s.dest = ByteArray.empty ∧ s.ver = 0) ∧ (s.kind = 4 → (0 ≤ s.a ∧ s.a ≤ 1048576) ∧ 0 ≤ s.b ∧ s.b ≤ 1048576) ∧ (s.kind ≠ 4 → s.a = 0 ∧ s.b = 0)
theorem may_ok {s : Sp} {i : Nat} (h : mayS s i = true) (hi : i ≤ 1048576) : StepOk s := by
  unfold mayS at h
  simp only [Bool.and_eq_true, decide_eq_true_eq] at h
  obtain ⟨⟨⟨h1, h2⟩, h3⟩, h4⟩ := h
  refine ⟨h1, name_24 _ h2, fun hk => ?_, fun hk => ?_, fun hk => ?_, fun hk => ?_⟩
  · rw [if_pos hk, Bool.and_eq_true] at h3
    have h5 := h3.2
    unfold verOk at h5
    simp only [decide_eq_true_eq] at h5
    exact ⟨by omega, name_24 _ h3.1⟩
  · rw [if_neg hk] at h3
    simp only [Bool.and_eq_true, decide_eq_true_eq] at h3
    exact h3
  · rw [if_pos hk] at h4
    simp only [decide_eq_true_eq] at h4
    omega
  · rw [if_neg hk] at h4
    simp only [decide_eq_true_eq] at h4
    exact h4
theorem ok_all_steps {l : List Sp} (h : okPf l = true) : ∀ s ∈ l, StepOk s := by
  intro s hs
  obtain ⟨h1, h2, _⟩ := okPf_steps h
  obtain ⟨i, hi, rfl⟩ := List.getElem_of_mem hs
  exact may_ok (h2 i l[i] (by simp)) (by omega)
/-! What is read. -/
def FineS (s : Sp) : Prop := s.name.size ≤ 24 ∧ s.dest.size ≤ 24
/-! What was written is read. -/
/-! What is read was written so. -/
end Go.Proofs.YtdmejcfnolhplaaGreat.Proof
/-
  The contracts of the laws' Large of steps, and of the document's own Leaves of a proof. Condition of Leaves: no more than 1,000,000 steps.
-/
namespace Go.Proofs.YtdmejcfnolhplaaGreat.Proof
open Go Go.RowKit Go.Lib Go.Proofs.YtdmejcfnolhplaaGreat.Need Go.Proofs.YtdmejcfnolhplaaGreat.Mani
set_option linter.unusedVariables false
def bigS (s : Sp) : Bool := decide (100 < s.name.size) || decide (100 < s.dest.size)
def largeS (l : List Sp) : Bool := (decide (300 < l.length ∧ l.length ≤ 1048576) || decide (1048586 < l.length)) || l.any bigS
theorem large_fine {l : List Sp} (h : largeS l = false) : ∀ s ∈ l, s.name.size ≤ 100 ∧ s.dest.size ≤ 100 := by
  unfold largeS at h
  simp only [Bool.or_eq_false_iff, List.any_eq_false] at h
  intro s hs
  have := h.2 s hs
  unfold bigS at this
  simp only [Bool.or_eq_true, decide_eq_true_eq, not_or] at this
  omega
theorem bigS_drop {l : List Sp} {i : Nat} {q : Sp} (h : l[i]? = some q) : (l.drop i).any bigS = (bigS q || (l.drop (i + 1)).any bigS) := by
  obtain ⟨hi, rfl⟩ := List.getElem?_eq_some_iff.1 h
  rw [List.drop_eq_getElem_cons hi, List.any_cons]
set_option maxHeartbeats 4000000 in
set_option maxRecDepth 100000 in
theorem largeS_any (l : List Sp) (A : Option Addr) (n c : Nat) (w : World) (h : PfOn w A n l) (hn : n ≤ 9223372036854775807) :
    Calls Tryz.prog 25 #[.slice A n c] w fun e w' => e = .returned (.bool (largeS l)) ∧ w' = w := by
  have hlen := h.len
  have e : largeS l = ((decide (300 < n ∧ n ≤ 1048576) || decide (1048586 < n)) || l.any bigS) := by unfold largeS; rw [hlen]
  have Hl := hide e
  have Hd := hide (fun i q => @bigS_drop l i q)
  clear e
  generalize largeS l = L at *
  obtain ⟨F, hF⟩ : ∃ F, F = l.any bigS := ⟨_, rfl⟩
  rw [← hF] at Hl
  have HF := hide hF
  have Hlen := hide hlen
  clear hF hlen
  by_cases h6 : (300 < n ∧ n ≤ 1048576) ∨ 1048586 < n
  · have e : Hid (L = true) := hide (by
      rw [Hl.out]
      rcases h6 with h6 | h6
      · rw [decide_eq_true h6]; rfl
      · rw [decide_eq_true h6]; simp)
    clear Hl
    rcases h6 with ⟨h6, h7⟩ | h6
    · have h6z : (300 : Int) < (n : Int) := by omega
      have h7z : (n : Int) ≤ 1048576 := by omega
      go_enter Tryz.func25, Tryz.ntmps25
      go_wp2
      go_ret
      exact ⟨by rw [e.out]; rfl, rfl⟩
    · have h6z : (300 : Int) < (n : Int) := by omega
      have h7z : ¬ (n : Int) ≤ 1048576 := by omega
      have h8z : (1048586 : Int) < (n : Int) := by omega
      go_enter Tryz.func25, Tryz.ntmps25
      go_wp2
      go_ret
      exact ⟨by rw [e.out]; rfl, rfl⟩
  · have e0 : Hid (L = F) := hide (by rw [Hl.out, decide_eq_false (by omega), decide_eq_false (by omega)]; rfl)
    have h6z : (300 : Int) < (n : Int) → ¬ (n : Int) ≤ 1048576 := by omega
    have h8z : ¬ (1048586 : Int) < (n : Int) := by omega
    have hcase : ((300 : Int) < (n : Int) ∧ ¬ (n : Int) ≤ 1048576) ∨ ¬ (300 : Int) < (n : Int) := by omega
    clear Hl h6 h6z
    go_enter Tryz.func25, Tryz.ntmps25
    rcases hcase with ⟨h6z, h7z⟩ | h6z
    all_goals
      go_wp2
      go_loopw [3] (fun v wr => ∃ i : Nat, i ≤ n ∧ v = .int .i64 (i : Int) ∧ Hid (F = (l.drop i).any bigS) ∧ wr = w) (fun v _ => n - (RowKit.intOf v).toNat)
      case atStart => exact ⟨0, by omega, rfl, HF, rfl⟩
      case round =>
        obtain ⟨i, hi, rfl, hf, rfl⟩ := hrel
        by_cases hlt : i < n
        · obtain ⟨ad, q, rfl, hbl, hx, c0, c1, c2, c3, c4, c5⟩ := PfIn.at_ h hlt
          have hd := hf.out.trans (Hd.out i q hx)
          have j1 : (0 : Int) ≤ (i : Int) := by omega
          have j2 : (i : Int) < (n : Int) := by omega
          clear hx hf h
          by_cases hb : 100 < q.name.size
          · have e : Hid (F = true) := hide (by rw [hd]; unfold bigS; rw [decide_eq_true hb]; rfl)
            have hz : (100 : Int) < (q.name.size : Int) := by omega
            clear hd
            go_wp2
            go_ret
            exact ⟨by rw [e0.out, e.out]; rfl, rfl⟩
          · by_cases hb2 : 100 < q.dest.size
            · have e : Hid (F = true) := hide (by rw [hd]; unfold bigS; rw [decide_eq_true hb2]; simp)
              have hz : ¬ (100 : Int) < (q.name.size : Int) := by omega
              have hz2 : (100 : Int) < (q.dest.size : Int) := by omega
              clear hd
              go_wp2
              go_ret
              exact ⟨by rw [e0.out, e.out]; rfl, rfl⟩
            · have e : Hid (F = (l.drop (i + 1)).any bigS) := hide (by rw [hd]; unfold bigS; rw [decide_eq_false hb, decide_eq_false hb2]; rfl)
              have hz : ¬ (100 : Int) < (q.name.size : Int) := by omega
              have hz2 : ¬ (100 : Int) < (q.dest.size : Int) := by omega
              clear hd
              go_wp2
              go_roundw
              case rel => exact ⟨i + 1, by omega, by go_num, e, trivial⟩
              case measure => simp [RowKit.intOf]; omega
        · have e : Hid (F = false) := hide (by rw [hf.out, List.drop_of_length_le (by have := Hlen.out; omega)]; rfl)
          clear hf
          go_wp2
          go_ret
          exact ⟨by rw [e0.out, e.out]; rfl, rfl⟩
/-! Leaves. -/
end Go.Proofs.YtdmejcfnolhplaaGreat.Proof
