/-
  Plain mathematics of the text of picks: a name's bytes hold no comma and no blank, and are at most 24; how long a text is; its parts. No program.
-/
import Derived.Test.YtnkcjemobljpdaaDoorPickMath
import Derived.Test.YtnkcjemobljpdaaDoorLabelBytes
namespace Go.Proofs.YtnkcjemobljpdaaDoor.Pick
open Go.RowKit Go.Lib Go.Proofs.YtnkcjemobljpdaaDoor.Span Go.Proofs.YtnkcjemobljpdaaDoor.Need
open Go.Proofs.YtnkcjemobljpdaaDoor.Label (runes fitL kindN enc encs bytes_of fit_kind)
open Go.Proofs.YtnkcjemobljpdaaDoor.Ver (txt txt_len txt_ascii)
set_option linter.unusedVariables false
theorem ofNat_ne {n k : Nat} (hn : n < 256) (hk : k < 256) (h : n ≠ k) : UInt8.ofNat n ≠ UInt8.ofNat k := fun e => h (by
  have h1 := congrArg UInt8.toNat e
  rw [UInt8.toNat_ofNat', UInt8.toNat_ofNat'] at h1
  omega)
theorem enc_plain {x : Nat} (h : kindN x ≠ 4) : (enc x).length ≤ 2 ∧ ∀ b ∈ enc x, b ≠ 44 ∧ b ≠ 32 := by
  have hx : (97 ≤ x ∧ x ≤ 122) ∨ (945 ≤ x ∧ x ≤ 969) ∨ (48 ≤ x ∧ x ≤ 57) ∨ x = 45 := by
    unfold kindN at h
    repeat' split at h
    all_goals first | omega | exact absurd rfl h
  unfold enc
  split
  · refine ⟨by simp, fun b hb => ?_⟩
    rw [List.mem_singleton] at hb
    rw [hb]
    exact ⟨ofNat_ne (k := 44) (by omega) (by omega) (by omega), ofNat_ne (k := 32) (by omega) (by omega) (by omega)⟩
  · refine ⟨by simp, fun b hb => ?_⟩
    rcases List.mem_cons.1 hb with hb | hb
    · rw [hb]
      exact ⟨ofNat_ne (k := 44) (by omega) (by omega) (by omega), ofNat_ne (k := 32) (by omega) (by omega) (by omega)⟩
    · rw [List.mem_singleton] at hb
      rw [hb]
      exact ⟨ofNat_ne (k := 44) (by omega) (by omega) (by omega), ofNat_ne (k := 32) (by omega) (by omega) (by omega)⟩
theorem encs_plain : ∀ {l : List Nat}, (∀ x ∈ l, kindN x ≠ 4) → (encs l).length ≤ 2 * l.length ∧ ∀ b ∈ encs l, b ≠ 44 ∧ b ≠ 32
  | [], _ => ⟨by simp [encs], fun b hb => by simp [encs] at hb⟩
  | x :: l, h => by
    obtain ⟨h1, h2⟩ := enc_plain (h x (by simp))
    obtain ⟨h3, h4⟩ := encs_plain fun y hy => h y (List.mem_cons_of_mem x hy)
    have e : encs (x :: l) = enc x ++ encs l := by simp [encs]
    rw [e]
    refine ⟨by rw [List.length_append, List.length_cons]; omega, fun b hb => ?_⟩
    rcases List.mem_append.1 hb with hb | hb
    · exact h2 b hb
    · exact h4 b hb
/-- A name that may be: at most 24 bytes, no comma, no blank. -/
theorem name_plain {s : ByteArray} (h : fitL (runes s 0) = true) : s.data.toList.length ≤ 24 ∧ ∀ b ∈ s.data.toList, b ≠ 44 ∧ b ≠ 32 := by
  have hk := fit_kind _ h
  have e := bytes_of s 0 (by omega) hk
  rw [List.drop_zero] at e
  rw [e]
  obtain ⟨h1, h2⟩ := encs_plain hk
  have h3 : (runes s 0).length ≤ 12 := by
    simp only [fitL, Bool.and_eq_true, decide_eq_true_eq] at h
    exact h.2.2
  exact ⟨by omega, h2⟩
/-- A version's text: at least 5 bytes, at most 11, no comma, no blank. -/
theorem txt_plain (p : Nat) : ∀ b ∈ txt p, b ≠ 44 ∧ b ≠ 32 := by
  have hd : ∀ n < 1000, ∀ b ∈ Lib.decDigits n, b ≠ 44 ∧ b ≠ 32 := fun n hn b hb => by
    obtain ⟨l, hl, hlt, _⟩ := Go.Proofs.YtnkcjemobljpdaaDoor.Ver.dec_cases hn
    rw [hl] at hb
    obtain ⟨d, hd, rfl⟩ := List.mem_map.1 hb
    have := hlt d hd
    exact ⟨ofNat_ne (k := 44) (by omega) (by omega) (by omega), ofNat_ne (k := 32) (by omega) (by omega) (by omega)⟩
  have h46 : (46 : UInt8) ≠ 44 ∧ (46 : UInt8) ≠ 32 := by decide
  have l1 : Go.Proofs.YtnkcjemobljpdaaDoor.Ver.pA p < 1000 := Nat.mod_lt _ (by omega)
  have l2 : Go.Proofs.YtnkcjemobljpdaaDoor.Ver.pB p < 1000 := Nat.mod_lt _ (by omega)
  have l3 : Go.Proofs.YtnkcjemobljpdaaDoor.Ver.pC p < 1000 := Nat.mod_lt _ (by omega)
  intro b hb
  unfold txt at hb
  rcases List.mem_append.1 hb with hb | hb
  · exact hd _ l1 b hb
  · rcases List.mem_cons.1 hb with rfl | hb
    · exact h46
    · rcases List.mem_append.1 hb with hb | hb
      · exact hd _ l2 b hb
      · rcases List.mem_cons.1 hb with rfl | hb
        · exact h46
        · exact hd _ l3 b hb
/-- A pick's text. -/
def pickB (q : Pk) : List UInt8 := q.1.data.toList ++ 32 :: txt q.2.toNat
theorem pickB_plain {q : Pk} (h : fitL (runes q.1 0) = true) : (pickB q).length ≤ 36 ∧ ∀ b ∈ pickB q, b ≠ 44 := by
  obtain ⟨h1, h2⟩ := name_plain h
  have h3 := (txt_len q.2.toNat).2
  unfold pickB
  refine ⟨by rw [List.length_append, List.length_cons]; omega, fun b hb => ?_⟩
  rcases List.mem_append.1 hb with hb | hb
  · exact (h2 b hb).1
  · rcases List.mem_cons.1 hb with rfl | hb
    · decide
    · exact (txt_plain _ b hb).1
/-- The texts of picks, with a comma and a blank between: those behind the first one. -/
def moreB : List Pk → List UInt8
  | [] => []
  | q :: t => 44 :: 32 :: (pickB q ++ moreB t)
def showB : List Pk → List UInt8
  | [] => [110, 111, 116, 104, 105, 110, 103]
  | q :: t => pickB q ++ moreB t
theorem moreB_append (l m : List Pk) : moreB (l ++ m) = moreB l ++ moreB m := by
  induction l with
  | nil => rfl
  | cons x t ih => simp [moreB, ih]
theorem showB_snoc {l : List Pk} (q : Pk) (h : l ≠ []) : showB (l ++ [q]) = showB l ++ (44 :: 32 :: pickB q) := by
  cases l with
  | nil => exact absurd rfl h
  | cons x t => simp [showB, moreB_append, moreB]
theorem moreB_len : ∀ {l : List Pk}, (∀ q ∈ l, fitL (runes q.1 0) = true) → (moreB l).length ≤ 38 * l.length
  | [], _ => by simp [moreB]
  | x :: t, h => by
    have h1 := (pickB_plain (h x (by simp))).1
    have h2 := moreB_len fun q hq => h q (List.mem_cons_of_mem x hq)
    simp only [moreB, List.length_cons, List.length_append]
    omega
theorem showB_len {l : List Pk} (h : ∀ q ∈ l, fitL (runes q.1 0) = true) : (showB l).length ≤ 38 * l.length + 7 := by
  cases l with
  | nil => simp [showB]
  | cons x t =>
    have h1 := (pickB_plain (h x (by simp))).1
    have h2 := moreB_len fun q hq => h q (List.mem_cons_of_mem x hq)
    simp only [showB, List.length_cons, List.length_append]
    omega
end Go.Proofs.YtnkcjemobljpdaaDoor.Pick
