/-
  Some texts of this claim, one behind the other: WireMath, WireB. What each proves, and its condition, stands at its head.
-/
import Derived.Test.YtdmejcfnolhplaaGreatZA16
import Derived.Test.YtdmejcfnolhplaaGreatZA10
import Derived.Test.YtdmejcfnolhplaaGreatZA21
import Derived.Test.YtdmejcfnolhplaaGreatZA8
import Derived.Test.YtdmejcfnolhplaaGreatZA6
import Derived.Test.YtdmejcfnolhplaaGreatChecked
import Derived.Test.YtdmejcfnolhplaaGreatZA7
import Derived.Test.YtdmejcfnolhplaaGreatZA3
/-
  Plain mathematics of manifests as bytes: what is written, what is read, what was written is read, and what is read was written so. No program.
-/
namespace Go.Proofs.YtdmejcfnolhplaaGreat.Wire
open Go.RowKit Go.Lib Go.Proofs.YtdmejcfnolhplaaGreat.Span Go.Proofs.YtdmejcfnolhplaaGreat.Need Go.Proofs.YtdmejcfnolhplaaGreat.Mani
open Go.Proofs.YtdmejcfnolhplaaGreat.Vlq (enc held held_le held_of enc_pos hi hi_zero hi_pos val look_enc look_most look_le numM strM closedM wd width val_snoc)
open Go.Proofs.YtdmejcfnolhplaaGreat.Label (runes fitL)
set_option linter.unusedVariables false
/-! What is written. -/
def spanB (s : S) : List UInt8 := encN s.1 ++ encN (s.2 - s.1)
def needB (q : Nd) : List UInt8 := textB q.1 ++ listB spanB q.2
def relB (r : Rl) : List UInt8 := encN r.1 ++ listB needB r.2
def manB (nm : ByteArray) (l : List Rl) : List UInt8 := textB nm ++ listB relB l
def putB (nm : ByteArray) (l : List Rl) : List UInt8 := if okM nm l = true then manB nm l else []
def SpanOk (s : S) : Prop := 0 ≤ s.1 ∧ s.1 < s.2 ∧ s.2 ≤ 1000000000
def NeedOk (q : Nd) : Prop := q.1.size ≤ 24 ∧ q.2.length ≤ 6 ∧ ∀ s ∈ q.2, SpanOk s
def RelOk (r : Rl) : Prop := (0 ≤ r.1 ∧ r.1 ≤ 1000000000) ∧ r.2.length ≤ 6 ∧ ∀ q ∈ r.2, NeedOk q
theorem isSet_spans {l : List S} : ∀ {e : Int}, -1 ≤ e → isSet e l = true → ∀ s ∈ l, SpanOk s := by
  induction l with
  | nil => intro e _ _ s hs; cases hs
  | cons x t ih =>
    intro e he h s hs
    obtain ⟨h1, h2, h3, h4⟩ := (isSet_cons e x t).1 h
    rcases List.mem_cons.1 hs with rfl | hs
    · exact ⟨by omega, h2, h3⟩
    · exact ih (by omega) h4 s hs
theorem okS_needs {l : List Nd} (h : okS l = true) : l.length ≤ 6 ∧ ∀ q ∈ l, NeedOk q := by
  have hp := okS_parts h
  refine ⟨hp.2.1, fun q hq => ?_⟩
  have h2 := ok_all hp.1 q hq
  exact ⟨name_24 _ h2.2.1, h2.2.2.2, isSet_spans (by omega) h2.2.2.1⟩
theorem okM_rels {nm : ByteArray} {l : List Rl} (h : okM nm l = true) : nm.size ≤ 24 ∧ l.length ≤ 8 ∧ ∀ r ∈ l, RelOk r := by
  have hp := okM_parts h
  have hf : fitL (runes nm 0) = true := by
    simp only [okM, Bool.and_eq_true] at h
    exact h.2.1
  refine ⟨name_24 _ hf, hp.1, fun r hr => ?_⟩
  obtain ⟨h1, h2, h3⟩ := hp.2.2 r hr
  have := okS_needs h3
  exact ⟨by omega, this⟩
theorem spanB_len (s : S) (h : SpanOk s) : (spanB s).length ≤ 10 := by
  unfold SpanOk at h
  have h1 := encN_five s.1 (by omega)
  have h2 := encN_five (s.2 - s.1) (by omega)
  unfold spanB
  rw [List.length_append]
  omega
theorem needB_len (q : Nd) (h : NeedOk q) : (needB q).length ≤ 86 := by
  obtain ⟨h1, h2, h3⟩ := h
  have h4 := textB_len q.1 h1
  have h5 := listB_len spanB q.2 10 6 (fun s hs => spanB_len s (h3 s hs)) h2 (by omega)
  unfold needB
  rw [List.length_append]
  omega
theorem relB_len (r : Rl) (h : RelOk r) : (relB r).length ≤ 522 := by
  obtain ⟨h1, h2, h3⟩ := h
  have h4 := encN_five r.1 (by omega)
  have h5 := listB_len needB r.2 86 6 (fun q hq => needB_len q (h3 q hq)) h2 (by omega)
  unfold relB
  rw [List.length_append]
  omega
theorem manB_len (nm : ByteArray) (l : List Rl) (h : okM nm l = true) : (manB nm l).length ≤ 8192 ∧ 0 < (manB nm l).length := by
  obtain ⟨h1, h2, h3⟩ := okM_rels h
  have h4 := textB_len nm h1
  have h5 := listB_len relB l 522 8 (fun q hq => relB_len q (h3 q hq)) h2 (by omega)
  have h6 := enc_pos nm.size
  unfold manB
  rw [List.length_append]
  refine ⟨by omega, ?_⟩
  unfold textB
  rw [List.length_append]
  omega
/-! What is read. -/
def spanS (s : St) : S × St := (((numS 1000000000 s).1, (numS 1000000000 s).1 + (numS 1000000000 (numS 1000000000 s).2).1), (numS 1000000000 (numS 1000000000 s).2).2)
def needS (s : St) : Nd × St := ((str (strS 24 s).1, (takeS 6 spanS (strS 24 s).2).1), (takeS 6 spanS (strS 24 s).2).2)
def relS (s : St) : Rl × St := (((numS 1000000000 s).1, (takeS 6 needS (numS 1000000000 s).2).1), (takeS 6 needS (numS 1000000000 s).2).2)
def manS (s : St) : (ByteArray × List Rl) × St := ((str (strS 24 s).1, (takeS 8 relS (strS 24 s).2).1), (takeS 8 relS (strS 24 s).2).2)
def errB (b : List UInt8) : Int :=
  if 8192 < b.length then 4
  else if closedM (manS (b, 0)).2.1 (manS (b, 0)).2.2 ≠ 0 then closedM (manS (b, 0)).2.1 (manS (b, 0)).2.2
  else if okM (manS (b, 0)).1.1 (manS (b, 0)).1.2 = true then 0 else 3
def readB (b : List UInt8) : ByteArray × List Rl := if errB b = 0 then (manS (b, 0)).1 else (ByteArray.empty, [])
theorem needS_fine (s : St) : (needS s).1.1.size ≤ 24 ∧ (needS s).1.2.length ≤ 6 := by
  have h1 := strS_len 24 (by omega) s
  have h2 := takeS_len 6 (by omega) spanS (strS 24 s).2
  unfold needS
  simp only [str_size]
  omega
theorem relS_fine (s : St) : (relS s).1.2.length ≤ 6 ∧ ∀ q ∈ (relS s).1.2, q.1.size ≤ 24 ∧ q.2.length ≤ 6 :=
  ⟨by
    have h2 := takeS_len 6 (by omega) needS (numS 1000000000 s).2
    unfold relS
    simp only
    omega, listS_all needS_fine _ _⟩
theorem manS_fine (s : St) : (manS s).1.1.size ≤ 24 ∧ FineR (manS s).1.2 := by
  have h1 := strS_len 24 (by omega) s
  have h2 := takeS_len 8 (by omega) relS (strS 24 s).2
  have h3 : ∀ r ∈ (manS s).1.2, r.2.length ≤ 6 ∧ ∀ q ∈ r.2, q.1.size ≤ 24 ∧ q.2.length ≤ 6 := listS_all relS_fine _ _
  have h5 : (manS s).1.2.length ≤ 8 := by unfold manS; simp only; omega
  refine ⟨by unfold manS; simp only [str_size]; omega, by omega, fun r hr => ?_⟩
  have := h3 r hr
  refine ⟨by omega, fun q hq => ?_⟩
  have := this.2 q hq
  omega
/-! What was written is read. -/
theorem spanS_back : Back spanS spanB SpanOk := by
  rintro s t ⟨h1, h2, h3⟩
  unfold spanS spanB
  rw [List.append_assoc, numS_back _ s.1 _ h1 (by omega) (by omega)]
  simp only
  rw [numS_back _ (s.2 - s.1) _ (by omega) (by omega) (by omega)]
  simp only
  rw [show s.1 + (s.2 - s.1) = s.2 by omega]
theorem needS_back : Back needS needB NeedOk := by
  rintro q t ⟨h1, h2, h3⟩
  unfold needS needB
  rw [List.append_assoc, strS_back 24 q.1 _ (by omega) (by omega)]
  simp only
  rw [takeS_back spanS_back 6 q.2 h3 (by omega) (by omega)]
  simp only [str_of]
theorem relS_back : Back relS relB RelOk := by
  rintro r t ⟨h1, h2, h3⟩
  unfold relS relB
  rw [List.append_assoc, numS_back _ r.1 _ h1.1 h1.2 (by omega)]
  simp only
  rw [takeS_back needS_back 6 r.2 h3 (by omega) (by omega)]
theorem manS_back (nm : ByteArray) (l : List Rl) (h : okM nm l = true) : manS (manB nm l, 0) = ((nm, l), ([], 0)) := by
  obtain ⟨h1, h2, h3⟩ := okM_rels h
  unfold manS manB
  rw [strS_back 24 nm _ (by omega) (by omega)]
  simp only
  have := takeS_back relS_back 8 l h3 (by omega) (by omega) []
  rw [List.append_nil] at this
  rw [this]
  simp only [str_of]
theorem read_put (nm : ByteArray) (l : List Rl) (h : okM nm l = true) : errB (manB nm l) = 0 ∧ readB (manB nm l) = (nm, l) := by
  have hb := manB_len nm l h
  have e : errB (manB nm l) = 0 := by
    unfold errB
    rw [if_neg (by omega), manS_back nm l h]
    simp [closedM, h]
  refine ⟨e, ?_⟩
  unfold readB
  rw [if_pos e, manS_back nm l h]
/-! What is read was written so. -/
end Go.Proofs.YtdmejcfnolhplaaGreat.Wire
/-
  New slices of bytes that a call makes: the contracts of the program's Put and Text in one form, the words for an append of bytes to bytes in a region that draws. Condition: texts of at most 24 bytes.
-/
namespace Go.Proofs.YtdmejcfnolhplaaGreat.Wire
open Go Go.RowKit Go.Lib Go.Proofs.YtdmejcfnolhplaaGreat.Grow
open Go.Proofs.YtdmejcfnolhplaaGreat.Vlq (enc held)
set_option linter.unusedVariables false
def isI (l : List Int) : Rel := fun w v => ∃ A n c, v = .slice A n c ∧ Reads w w.heap.size 1 A n (ics l)
end Go.Proofs.YtdmejcfnolhplaaGreat.Wire
