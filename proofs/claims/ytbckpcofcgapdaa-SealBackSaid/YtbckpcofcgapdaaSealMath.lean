/-
  Plain mathematics of replies as bytes: what is packed, what is told of any bytes; what was packed is opened, with one byte that is another one it is not. No program.
-/
import Derived.Test.YtbckpcofcgapdaaWireNum
import Derived.Test.YtbckpcofcgapdaaWireName
import Derived.Test.YtbckpcofcgapdaaStampMath
namespace Go.Proofs.Ytbckpcofcgapdaa.Seal
open Go.RowKit Go.Lib Go.Proofs.Ytbckpcofcgapdaa.Wire
open Go.Proofs.Ytbckpcofcgapdaa.Label (runes fitL runes_end)
open Go.Proofs.Ytbckpcofcgapdaa.Stamp (seal_ four sum opens seal_opens seal_length turned)
open Go.Proofs.Ytbckpcofcgapdaa.Vlq (closedM enc_pos enc_length)
set_option linter.unusedVariables false
/-- A reply's bytes. -/
def bodyB (nm : ByteArray) (bd : List UInt8) : List UInt8 := textB nm ++ textB (str bd)
def packB (nm : ByteArray) (bd : List UInt8) : List UInt8 := if fitL (runes nm 0) = true ∧ bd.length ≤ 8192 then seal_ (bodyB nm bd) else []
/-- What is told of bytes that were sealed: the name, the body, the error. -/
def nmS (x : List UInt8) : List UInt8 × St := strS 24 (x, 0)
def bdS (x : List UInt8) : List UInt8 × St := strS 8192 (nmS x).2
def endS (x : List UInt8) : Int := closedM (bdS x).2.1 (bdS x).2.2
def errX (x : List UInt8) : Int := if endS x ≠ 0 then endS x else if fitL (runes (str (nmS x).1) 0) = true then 0 else 3
def opensB (b : List UInt8) : Bool := decide (4 ≤ b.length) && decide (b.drop (b.length - 4) = four (sum (b.take (b.length - 4))))
theorem opensB_iff (b : List UInt8) : opensB b = true ↔ opens b := by simp [opensB, opens]
def errO (b : List UInt8) : Int := if opensB b = true then errX (b.take (b.length - 4)) else 8
def openB (b : List UInt8) : ByteArray × List UInt8 := if errO b = 0 then (str (nmS (b.take (b.length - 4))).1, (bdS (b.take (b.length - 4))).1) else (ByteArray.empty, [])
theorem openB_err {b : List UInt8} (h : errO b ≠ 0) : openB b = (ByteArray.empty, []) := by unfold openB; rw [if_neg h]
theorem str_data (bd : List UInt8) : (str bd).data.toList = bd := by simp [str]
theorem body_back (nm : ByteArray) (bd : List UInt8) (hf : fitL (runes nm 0) = true) (hb : bd.length ≤ 8192) : nmS (bodyB nm bd) = (nm.data.toList, (textB (str bd), 0)) ∧ bdS (bodyB nm bd) = (bd, ([], 0)) := by
  have h24 := name_24 nm hf
  have e1 : nmS (bodyB nm bd) = (nm.data.toList, (textB (str bd), 0)) := by
    unfold nmS bodyB
    exact strS_back 24 nm _ (by omega) (by omega)
  refine ⟨e1, ?_⟩
  unfold bdS
  rw [e1]
  have := strS_back 8192 (str bd) [] (by rw [str_size]; omega) (by rw [str_size]; omega)
  rw [List.append_nil, str_data] at this
  exact this
theorem fit_pos (nm : ByteArray) (hf : fitL (runes nm 0) = true) : 0 < nm.size := by
  rcases Nat.eq_zero_or_pos nm.size with h0 | h0
  · rw [runes_end nm 0 (by omega)] at hf
    simp [fitL] at hf
  · exact h0
theorem bodyB_len (nm : ByteArray) (bd : List UInt8) (hf : fitL (runes nm 0) = true) : 3 ≤ (bodyB nm bd).length ∧ (bodyB nm bd).length ≤ 31 + bd.length + (if bd.length ≤ 1099511627776 then 0 else (textB (str bd)).length) := by
  have h24 := name_24 nm hf
  have h1 := textB_len nm h24
  have h2 := fit_pos nm hf
  have h3 := enc_pos nm.size
  have h4 := enc_pos (str bd).size
  have h5 : nm.data.toList.length = nm.size := (Lib.size_eq nm).symm
  unfold bodyB
  rw [List.length_append]
  refine ⟨?_, ?_⟩
  · unfold textB
    rw [List.length_append, List.length_append, str_data]
    omega
  · split
    · rename_i h6
      have h7 := enc_length (str bd).size (by rw [str_size]; exact h6)
      have h8 : (textB (str bd)).length = (Vlq.enc (str bd).size).length + bd.length := by unfold textB; rw [List.length_append, str_data]
      omega
    · omega
theorem packB_yes {nm : ByteArray} {bd : List UInt8} (hf : fitL (runes nm 0) = true) (hb : bd.length ≤ 8192) : packB nm bd = seal_ (bodyB nm bd) := by unfold packB; rw [if_pos ⟨hf, hb⟩]
theorem packB_no {nm : ByteArray} {bd : List UInt8} (h : ¬ (fitL (runes nm 0) = true ∧ bd.length ≤ 8192)) : packB nm bd = [] := by unfold packB; rw [if_neg h]
theorem packB_len {nm : ByteArray} {bd : List UInt8} (hf : fitL (runes nm 0) = true) (hb : bd.length ≤ 8192) : 7 ≤ (packB nm bd).length ∧ (packB nm bd).length ≤ 8300 := by
  have h := bodyB_len nm bd hf
  rw [if_pos (by omega)] at h
  rw [packB_yes hf hb, seal_length]
  omega
theorem seal_take4 (l : List UInt8) : (seal_ l).take ((seal_ l).length - 4) = l := by
  rw [seal_length, Nat.add_sub_cancel]
  exact Stamp.seal_take l
/-- What was packed is opened. -/
theorem pack_open {nm : ByteArray} {bd : List UInt8} (hf : fitL (runes nm 0) = true) (hb : bd.length ≤ 8192) : errO (packB nm bd) = 0 ∧ openB (packB nm bd) = (nm, bd) := by
  obtain ⟨e1, e2⟩ := body_back nm bd hf hb
  have ho : opensB (packB nm bd) = true := (opensB_iff _).2 (by rw [packB_yes hf hb]; exact seal_opens _)
  have ht : (packB nm bd).take ((packB nm bd).length - 4) = bodyB nm bd := by rw [packB_yes hf hb]; exact seal_take4 _
  have ee : endS (bodyB nm bd) = 0 := by unfold endS; rw [e2]; rfl
  have ex : errX (bodyB nm bd) = 0 := by
    unfold errX
    rw [if_neg (by rw [ee]; simp), e1]
    simp only [str_of]
    rw [if_pos hf]
  have e : errO (packB nm bd) = 0 := by unfold errO; rw [if_pos ho, ht, ex]
  refine ⟨e, ?_⟩
  unfold openB
  rw [if_pos e, ht, e1, e2]
  simp only [str_of]
/-- With one byte that is another one it is not. -/
theorem pack_turned {nm : ByteArray} {bd : List UInt8} (hf : fitL (runes nm 0) = true) (hb : bd.length ≤ 8192) (i : Nat) (a b : UInt8) (h : (packB nm bd)[i]? = some a) (hab : a ≠ b) : ¬ opens ((packB nm bd).set i b) ∧ errO ((packB nm bd).set i b) = 8 := by
  rw [packB_yes hf hb] at h ⊢
  have ht := turned (bodyB nm bd) i a b h hab
  refine ⟨ht, ?_⟩
  unfold errO
  rw [if_neg (fun e => ht ((opensB_iff _).1 e))]
end Go.Proofs.Ytbckpcofcgapdaa.Seal
