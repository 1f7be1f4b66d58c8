/-
  Some texts of this claim, one behind the other: ProofByte. What each proves, and its condition, stands at its head.
-/
import Derived.Test.YtdggnakjfcmnmaaZB5
import Derived.Test.YtdggnakjfcmnmaaZB14
import Derived.Test.YtdggnakjfcmnmaaZB8
/-
  Plain mathematics of proofs as bytes: what is written, what is read, what was written is read, and what is read was written so. No program.
-/
namespace Go.Proofs.Ytdggnakjfcmnmaa.Proof
open Go.RowKit Go.Lib Go.Proofs.Ytdggnakjfcmnmaa.Need Go.Proofs.Ytdggnakjfcmnmaa.Pick Go.Proofs.Ytdggnakjfcmnmaa.Wire
open Go.Proofs.Ytdggnakjfcmnmaa.Vlq (held closedM numM strM)
open Go.Proofs.Ytdggnakjfcmnmaa.Label (runes fitL)
set_option linter.unusedVariables false
def okPf (l : List Sp) : Bool := decide (l.length ≤ 1048576) && ((List.range l.length).all fun i => match l[i]? with | some s => mayS s i | none => true) && decide (1 ≤ l.length)
theorem okPf_steps {l : List Sp} (h : okPf l = true) : l.length ≤ 1048576 ∧ OkSteps l ∧ 1 ≤ l.length := by
  unfold okPf at h
  simp only [Bool.and_eq_true, decide_eq_true_eq, List.all_eq_true, List.mem_range] at h
  refine ⟨h.1.1, fun i s hs => ?_, h.2⟩
  have := h.1.2 i (List.getElem?_eq_some_iff.1 hs).1
  rw [hs] at this
  exact this
theorem okPf_of {l : List Sp} (h1 : l.length ≤ 1048576) (h2 : OkSteps l) (h3 : 1 ≤ l.length) : okPf l = true := by
  unfold okPf
  simp only [Bool.and_eq_true, decide_eq_true_eq, List.all_eq_true, List.mem_range]
  refine ⟨⟨h1, fun i hi => ?_⟩, h3⟩
  have e : l[i]? = some l[i] := by simp
  rw [e]
  exact h2 i _ e
theorem okPf_not {l : List Sp} {i : Nat} {s : Sp} (hs : l[i]? = some s) (hm : mayS s i = false) : okPf l = false := by
  cases h : okPf l with
  | false => rfl
  | true =>
    have := (okPf_steps h).2.1 i s hs
    rw [hm] at this
    cases this
theorem okPf_long {l : List Sp} (h : 1048576 < l.length) : okPf l = false := by
  cases h2 : okPf l with
  | false => rfl
  | true => have := (okPf_steps h2).1; omega
theorem okPf_trim {l : List Sp} (h : okPf l = true) : okPf (trimT l) = true := by
  obtain ⟨h1, h2, h3⟩ := okPf_steps h
  exact okPf_of (Nat.le_trans trim_le h1) (trim_ok h2) (trim_last h2 h3).2
/-! What is written. -/
def tailB (s : Sp) : List UInt8 := if s.kind = 3 then encN s.ver ++ textB s.dest else if s.kind = 4 then encN s.a ++ encN s.b else []
def stepB (s : Sp) : List UInt8 := encN s.kind ++ (textB s.name ++ tailB s)
def pfB (l : List Sp) : List UInt8 := listB stepB l
def putPf (l : List Sp) : List UInt8 := if okPf l = true then pfB l else []
def StepOk (s : Sp) : Prop := (1 ≤ s.kind ∧ s.kind ≤ 4) ∧ s.name.size ≤ 24 ∧ (s.kind = 3 → (0 ≤ s.ver ∧ s.ver ≤ 1000000000) ∧ s.dest.size ≤ 24) ∧ (s.kind ≠ 3 → s.dest = ByteArray.empty ∧ s.ver = 0) ∧ (s.kind = 4 → (0 ≤ s.a ∧ s.a ≤ 1048576) ∧ 0 ≤ s.b ∧ s.b ≤ 1048576) ∧ (s.kind ≠ 4 → s.a = 0 ∧ s.b = 0)
theorem may_ok {s : Sp} {i : Nat} (h : mayS s i = true) (hi : i ≤ 1048576) : StepOk s := by
  unfold mayS at h
  simp only [Bool.and_eq_true, decide_eq_true_eq] at h
  obtain ⟨⟨⟨h1, h2⟩, h3⟩, h4⟩ := h
  refine ⟨h1, name_24 _ h2, fun hk => ?_, fun hk => ?_, fun hk => ?_, fun hk => ?_⟩
  · rw [if_pos hk, Bool.and_eq_true] at h3
    have h5 := h3.2
    unfold verOk at h5
    simp only [decide_eq_true_eq] at h5
    exact ⟨by omega, name_24 _ h3.1⟩
  · rw [if_neg hk] at h3
    simp only [Bool.and_eq_true, decide_eq_true_eq] at h3
    exact h3
  · rw [if_pos hk] at h4
    simp only [decide_eq_true_eq] at h4
    omega
  · rw [if_neg hk] at h4
    simp only [decide_eq_true_eq] at h4
    exact h4
theorem ok_all_steps {l : List Sp} (h : okPf l = true) : ∀ s ∈ l, StepOk s := by
  intro s hs
  obtain ⟨h1, h2, _⟩ := okPf_steps h
  obtain ⟨i, hi, rfl⟩ := List.getElem_of_mem hs
  exact may_ok (h2 i l[i] (by simp)) (by omega)
/-! What is read. -/
def kindS (s : St) : Int × St := numS 4 s
def nameS (s : St) : ByteArray × St := (str (strS 24 s).1, (strS 24 s).2)
def stepS (s : St) : Sp × St :=
  let k := (kindS s).1
  let nm := (nameS (kindS s).2).1
  let t := (nameS (kindS s).2).2
  if k = 3 then (⟨k, nm, (numS 1000000000 t).1, (nameS (numS 1000000000 t).2).1, 0, 0⟩, (nameS (numS 1000000000 t).2).2)
  else if k = 4 then (⟨k, nm, 0, ByteArray.empty, (numS 1048576 t).1, (numS 1048576 (numS 1048576 t).2).1⟩, (numS 1048576 (numS 1048576 t).2).2)
  else (⟨k, nm, 0, ByteArray.empty, 0, 0⟩, t)
def pfS (s : St) : List Sp × St := takeS 1048576 stepS s
def errPf (b : List UInt8) : Int :=
  if closedM (pfS (b, 0)).2.1 (pfS (b, 0)).2.2 ≠ 0 then closedM (pfS (b, 0)).2.1 (pfS (b, 0)).2.2
  else if okPf (pfS (b, 0)).1 = true then 0 else 3
def readPf (b : List UInt8) : List Sp := if errPf b = 0 then (pfS (b, 0)).1 else []
def FineS (s : Sp) : Prop := s.name.size ≤ 24 ∧ s.dest.size ≤ 24
/-! What was written is read. -/
/-! What is read was written so. -/
end Go.Proofs.Ytdggnakjfcmnmaa.Proof
