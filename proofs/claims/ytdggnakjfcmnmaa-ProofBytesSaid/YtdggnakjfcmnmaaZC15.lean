/-
  Some texts of this claim, one behind the other: ProofByte. What each proves, and its condition, stands at its head.
-/
import Derived.Test.YtdggnakjfcmnmaaZC5
import Derived.Test.YtdggnakjfcmnmaaZC14
import Derived.Test.YtdggnakjfcmnmaaZC8
/-
  Plain mathematics of proofs as bytes: what is written, what is read, what was written is read, and what is read was written so. No program.
-/
namespace Go.Proofs.Ytdggnakjfcmnmaa.Proof
open Go.RowKit Go.Lib Go.Proofs.Ytdggnakjfcmnmaa.Need Go.Proofs.Ytdggnakjfcmnmaa.Pick Go.Proofs.Ytdggnakjfcmnmaa.Wire
open Go.Proofs.Ytdggnakjfcmnmaa.Vlq (held closedM numM strM)
open Go.Proofs.Ytdggnakjfcmnmaa.Label (runes fitL)
set_option linter.unusedVariables false
def okPf (l : List Sp) : Bool := decide (l.length ≤ 1048576) && ((List.range l.length).all fun i => match l[i]? with | some s => mayS s i | none => true) && decide (1 ≤ l.length)
theorem okPf_steps {l : List Sp} (h : okPf l = true) : l.length ≤ 1048576 ∧ OkSteps l ∧ 1 ≤ l.length := by
  unfold okPf at h
  simp only [Bool.and_eq_true, decide_eq_true_eq, List.all_eq_true, List.mem_range] at h
  refine ⟨h.1.1, fun i s hs => ?_, h.2⟩
  have := h.1.2 i (List.getElem?_eq_some_iff.1 hs).1
  rw [hs] at this
  exact this
theorem okPf_of {l : List Sp} (h1 : l.length ≤ 1048576) (h2 : OkSteps l) (h3 : 1 ≤ l.length) : okPf l = true := by
  unfold okPf
  simp only [Bool.and_eq_true, decide_eq_true_eq, List.all_eq_true, List.mem_range]
  refine ⟨⟨h1, fun i hi => ?_⟩, h3⟩
  have e : l[i]? = some l[i] := by simp
  rw [e]
  exact h2 i _ e
theorem okPf_not {l : List Sp} {i : Nat} {s : Sp} (hs : l[i]? = some s) (hm : mayS s i = false) : okPf l = false := by
  cases h : okPf l with
  | false => rfl
  | true =>
    have := (okPf_steps h).2.1 i s hs
    rw [hm] at this
    cases this
theorem okPf_long {l : List Sp} (h : 1048576 < l.length) : okPf l = false := by
  cases h2 : okPf l with
  | false => rfl
  | true => have := (okPf_steps h2).1; omega
theorem okPf_all {l : List Sp} (h1 : l.length ≤ 1048576) (h2 : OkSteps l) : okPf l = decide (1 ≤ l.length) := by
  by_cases h3 : 1 ≤ l.length
  · rw [okPf_of h1 h2 h3, decide_eq_true h3]
  · unfold okPf
    rw [decide_eq_false h3, Bool.and_false]
/-! What is written. -/
def tailB (s : Sp) : List UInt8 := if s.kind = 3 then encN s.ver ++ textB s.dest else if s.kind = 4 then encN s.a ++ encN s.b else []
def stepB (s : Sp) : List UInt8 := encN s.kind ++ (textB s.name ++ tailB s)
def pfB (l : List Sp) : List UInt8 := listB stepB l
def putPf (l : List Sp) : List UInt8 := if okPf l = true then pfB l else []
def StepOk (s : Sp) : Prop := (1 ≤ s.kind ∧ s.kind ≤ 4) ∧ s.name.size ≤ 24 ∧ (s.kind = 3 → (0 ≤ s.ver ∧ s.ver ≤ 1000000000) ∧ s.dest.size ≤ 24) ∧ (s.kind ≠ 3 → s.dest = ByteArray.empty ∧ s.ver = 0) ∧ (s.kind = 4 → (0 ≤ s.a ∧ s.a ≤ 1048576) ∧ 0 ≤ s.b ∧ s.b ≤ 1048576) ∧ (s.kind ≠ 4 → s.a = 0 ∧ s.b = 0)
theorem may_ok {s : Sp} {i : Nat} (h : mayS s i = true) (hi : i ≤ 1048576) : StepOk s := by
  unfold mayS at h
  simp only [Bool.and_eq_true, decide_eq_true_eq] at h
  obtain ⟨⟨⟨h1, h2⟩, h3⟩, h4⟩ := h
  refine ⟨h1, name_24 _ h2, fun hk => ?_, fun hk => ?_, fun hk => ?_, fun hk => ?_⟩
  · rw [if_pos hk, Bool.and_eq_true] at h3
    have h5 := h3.2
    unfold verOk at h5
    simp only [decide_eq_true_eq] at h5
    exact ⟨by omega, name_24 _ h3.1⟩
  · rw [if_neg hk] at h3
    simp only [Bool.and_eq_true, decide_eq_true_eq] at h3
    exact h3
  · rw [if_pos hk] at h4
    simp only [decide_eq_true_eq] at h4
    omega
  · rw [if_neg hk] at h4
    simp only [decide_eq_true_eq] at h4
    exact h4
theorem ok_all_steps {l : List Sp} (h : okPf l = true) : ∀ s ∈ l, StepOk s := by
  intro s hs
  obtain ⟨h1, h2, _⟩ := okPf_steps h
  obtain ⟨i, hi, rfl⟩ := List.getElem_of_mem hs
  exact may_ok (h2 i l[i] (by simp)) (by omega)
theorem tailB_len (s : Sp) (h : StepOk s) : (tailB s).length ≤ 31 := by
  obtain ⟨h1, h2, h3, h4, h5, h6⟩ := h
  unfold tailB
  by_cases hk : s.kind = 3
  · rw [if_pos hk, List.length_append]
    have g1 := encN_six s.ver
    have g2 := textB_len s.dest (h3 hk).2
    omega
  · rw [if_neg hk]
    by_cases hk4 : s.kind = 4
    · rw [if_pos hk4, List.length_append]
      have g1 := encN_six s.a
      have g2 := encN_six s.b
      omega
    · rw [if_neg hk4]
      simp
theorem stepB_len (s : Sp) (h : StepOk s) : (stepB s).length ≤ 62 := by
  have g1 := encN_six s.kind
  have g2 := textB_len s.name h.2.1
  have g3 := tailB_len s h
  unfold stepB
  rw [List.length_append, List.length_append]
  omega
theorem flatPf_len (l : List Sp) (h : ∀ s ∈ l, StepOk s) (hn : l.length ≤ 1048576) (k : Nat) : (flat stepB (l.take k)).length ≤ 70000000 := by
  have h1 := flat_len stepB (l.take k) 62 (fun x hx => stepB_len x (h x (List.mem_of_mem_take hx)))
  have h2 : (l.take k).length ≤ 1048576 := by rw [List.length_take]; omega
  have h3 : (l.take k).length * 62 ≤ 1048576 * 62 := Nat.mul_le_mul_right _ h2
  omega
theorem pfB_len (l : List Sp) (h : okPf l = true) : (pfB l).length ≤ 70000010 := by
  have h1 := flatPf_len l (ok_all_steps h) (okPf_steps h).1 l.length
  rw [List.take_length] at h1
  have h2 := encN_six (l.length : Int)
  unfold pfB listB
  rw [List.length_append]
  omega
/-! What is read. -/
def kindS (s : St) : Int × St := numS 4 s
def nameS (s : St) : ByteArray × St := (str (strS 24 s).1, (strS 24 s).2)
def stepS (s : St) : Sp × St :=
  let k := (kindS s).1
  let nm := (nameS (kindS s).2).1
  let t := (nameS (kindS s).2).2
  if k = 3 then (⟨k, nm, (numS 1000000000 t).1, (nameS (numS 1000000000 t).2).1, 0, 0⟩, (nameS (numS 1000000000 t).2).2)
  else if k = 4 then (⟨k, nm, 0, ByteArray.empty, (numS 1048576 t).1, (numS 1048576 (numS 1048576 t).2).1⟩, (numS 1048576 (numS 1048576 t).2).2)
  else (⟨k, nm, 0, ByteArray.empty, 0, 0⟩, t)
def pfS (s : St) : List Sp × St := takeS 1048576 stepS s
def errPf (b : List UInt8) : Int :=
  if closedM (pfS (b, 0)).2.1 (pfS (b, 0)).2.2 ≠ 0 then closedM (pfS (b, 0)).2.1 (pfS (b, 0)).2.2
  else if okPf (pfS (b, 0)).1 = true then 0 else 3
def readPf (b : List UInt8) : List Sp := if errPf b = 0 then (pfS (b, 0)).1 else []
theorem numS_stay (most : Int) (s : St) (h : s.2 ≠ 0) : numS most s = (0, s) := by
  unfold numS numM
  rw [if_pos h]
theorem strS_stay (most : Int) (s : St) (h : s.2 ≠ 0) : strS most s = ([], s) := by
  unfold strS strM
  rw [if_pos h]
theorem stepS_stay (s : St) (h : s.2 ≠ 0) : (stepS s).2 = s := by
  unfold stepS kindS nameS
  simp only [numS_stay _ s h, strS_stay _ s h]
  rw [if_neg (by omega), if_neg (by omega)]
theorem listS_stay (n : Nat) (s : St) (h : s.2 ≠ 0) : (listS stepS n s).2 = s := by
  induction n with
  | zero => rfl
  | succ n ih => simp only [listS]; rw [ih]; exact stepS_stay s h
theorem listS_more {α : Type} (one : St → α × St) (i : Nat) (s : St) : ∀ j, (listS one (i + j) s).2 = (listS one j (listS one i s).2).2 := by
  intro j
  induction j with
  | zero => rfl
  | succ j ih =>
    rw [← Nat.add_assoc]
    simp only [listS]
    rw [ih]
theorem listS_end (n i : Nat) (s : St) (hi : i ≤ n) (h : (listS stepS i s).2.2 ≠ 0) : (listS stepS n s).2 = (listS stepS i s).2 := by
  have := listS_more stepS i s (n - i)
  rw [show i + (n - i) = n by omega] at this
  rw [this, listS_stay _ _ h]
def FineS (s : Sp) : Prop := s.name.size ≤ 24 ∧ s.dest.size ≤ 24
theorem nameS_len (s : St) : (nameS s).1.size ≤ 24 := by
  have := strS_len 24 (by omega) s
  unfold nameS
  rw [str_size]
  omega
theorem stepS_fine (s : St) : FineS (stepS s).1 := by
  unfold FineS stepS
  simp only
  split
  · exact ⟨nameS_len _, nameS_len _⟩
  · split
    · exact ⟨nameS_len _, by simp⟩
    · exact ⟨nameS_len _, by simp⟩
theorem pfS_fine (s : St) : (pfS s).1.length ≤ 1048576 ∧ ∀ x ∈ (pfS s).1, FineS x :=
  ⟨by
    have := takeS_len 1048576 (by omega) stepS s
    unfold pfS
    omega, listS_all stepS_fine _ _⟩
/-! What was written is read. -/
theorem nameS_back (nm : ByteArray) (t : List UInt8) (h : nm.size ≤ 24) : nameS (textB nm ++ t, 0) = (nm, (t, 0)) := by
  unfold nameS
  rw [strS_back 24 nm _ (by omega) (by omega)]
  simp only [str_of]
theorem stepS_back : Back stepS stepB StepOk := by
  rintro s t ⟨h1, h2, h3, h4, h5, h6⟩
  have e : stepB s ++ t = encN s.kind ++ (textB s.name ++ (tailB s ++ t)) := by unfold stepB; simp only [List.append_assoc]
  rw [e]
  unfold stepS kindS
  simp only [numS_back 4 s.kind _ (by omega) h1.2 (by omega), nameS_back s.name _ h2]
  obtain ⟨k, nm, v, d, a, b⟩ := s
  unfold tailB
  simp only at h1 h2 h3 h4 h5 h6 ⊢
  by_cases hk : k = 3
  · obtain ⟨g1, g2⟩ := h3 hk
    obtain ⟨rfl, rfl⟩ := h6 (by omega)
    rw [if_pos hk, if_pos hk, List.append_assoc, numS_back _ v _ (by omega) (by omega) (by omega)]
    simp only [nameS_back d _ g2]
  · obtain ⟨rfl, rfl⟩ := h4 hk
    rw [if_neg hk, if_neg hk]
    by_cases hk4 : k = 4
    · obtain ⟨g1, g2⟩ := h5 hk4
      rw [if_pos hk4, if_pos hk4, List.append_assoc, numS_back _ a _ (by omega) (by omega) (by omega)]
      simp only
      rw [numS_back _ b _ (by omega) (by omega) (by omega)]
    · obtain ⟨rfl, rfl⟩ := h6 hk4
      rw [if_neg hk4, if_neg hk4, List.nil_append]
theorem pfS_back (l : List Sp) (h : okPf l = true) : pfS (pfB l, 0) = (l, ([], 0)) := by
  have h1 := (okPf_steps h).1
  have h2 := ok_all_steps h
  unfold pfS takeS pfB listB
  rw [numS_back 1048576 l.length _ (by omega) (by omega) (by omega)]
  simp only [Int.toNat_natCast]
  have := listS_back stepS_back l h2 [] l.length (Nat.le_refl _)
  rw [List.append_nil, List.take_length, List.drop_length] at this
  rw [this]
  rfl
theorem read_putPf (l : List Sp) (h : okPf l = true) : errPf (pfB l) = 0 ∧ readPf (pfB l) = l := by
  have e : errPf (pfB l) = 0 := by
    unfold errPf
    rw [pfS_back l h]
    simp [closedM, h]
  refine ⟨e, ?_⟩
  unfold readPf
  rw [if_pos e, pfS_back l h]
/-! What is read was written so. -/
theorem nameS_canon (s : St) (h : (nameS s).2.2 = 0) : s.2 = 0 ∧ s.1 = textB (nameS s).1 ++ (nameS s).2.1 := strS_canon 24 s h
theorem stepS_canon : Canon stepS stepB := by
  intro s hs
  obtain ⟨K, hK⟩ : ∃ K, K = kindS s := ⟨_, rfl⟩
  obtain ⟨M, hM⟩ : ∃ M, M = nameS K.2 := ⟨_, rfl⟩
  have key : ∀ B : List UInt8, M.2.2 = 0 ∧ M.2.1 = B → s.2 = 0 ∧ s.1 = encN K.1 ++ (textB M.1 ++ B) := by
    rintro B ⟨h0, h1⟩
    obtain ⟨h2, h3⟩ := nameS_canon K.2 (by rw [← hM]; exact h0)
    obtain ⟨h4, h5⟩ := numS_canon 4 s (by rw [← kindS, ← hK]; exact h2)
    refine ⟨h4, ?_⟩
    rw [← kindS, ← hK, h3, ← hM, h1] at h5
    exact h5
  unfold stepS at hs ⊢
  simp only [← hK, ← hM] at hs ⊢
  by_cases hk : K.1 = 3
  · rw [if_pos hk] at hs ⊢
    simp only at hs ⊢
    obtain ⟨h1, h2⟩ := nameS_canon _ hs
    obtain ⟨h3, h4⟩ := numS_canon _ _ h1
    unfold stepB tailB
    simp only
    rw [if_pos hk, List.append_assoc, List.append_assoc, List.append_assoc]
    exact key _ ⟨h3, by rw [h2] at h4; exact h4⟩
  · rw [if_neg hk] at hs ⊢
    by_cases hk4 : K.1 = 4
    · rw [if_pos hk4] at hs ⊢
      simp only at hs ⊢
      obtain ⟨h1, h2⟩ := numS_canon _ _ hs
      obtain ⟨h3, h4⟩ := numS_canon _ _ h1
      unfold stepB tailB
      simp only
      rw [if_neg hk, if_pos hk4, List.append_assoc, List.append_assoc, List.append_assoc]
      exact key _ ⟨h3, by rw [h2] at h4; exact h4⟩
    · rw [if_neg hk4] at hs ⊢
      simp only at hs ⊢
      unfold stepB tailB
      simp only
      rw [if_neg hk, if_neg hk4, List.append_assoc, List.append_assoc, List.nil_append]
      exact key _ ⟨hs, rfl⟩
theorem pfS_canon : Canon pfS pfB := takeS_canon stepS_canon 1048576 (by omega)
theorem put_readPf (b : List UInt8) (h : errPf b = 0) : okPf (readPf b) = true ∧ pfB (readPf b) = b := by
  unfold readPf
  rw [if_pos h]
  unfold errPf at h
  split at h
  · rename_i h1; exact absurd h h1
  · rename_i h1
    split at h
    · rename_i h2
      refine ⟨h2, ?_⟩
      have h3 : closedM (pfS (b, 0)).2.1 (pfS (b, 0)).2.2 = 0 := by simpa using h1
      unfold closedM at h3
      split at h3
      · rename_i h4; exact absurd h3 h4
      · rename_i h4
        split at h3
        · rename_i h5
          have := (pfS_canon (b, 0) (by simpa using h4)).2
          rw [h5, List.append_nil] at this
          exact this.symm
        · cases h3
    · cases h
end Go.Proofs.Ytdggnakjfcmnmaa.Proof
