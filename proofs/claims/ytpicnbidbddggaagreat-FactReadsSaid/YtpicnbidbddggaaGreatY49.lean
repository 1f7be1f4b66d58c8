/-
  Some texts of this claim, one behind the other: ManiNames, ReachFresh, ReachNames, FactSpec, ReachGrowsM. What each proves, and its condition, stands at its head.
-/
import Derived.Test.YtpicnbidbddggaaGreatY36
import Derived.Test.YtpicnbidbddggaaGreatY33
import Derived.Test.YtpicnbidbddggaaGreatY16
import Derived.Test.YtpicnbidbddggaaGreatY26
import Derived.Test.YtpicnbidbddggaaGreatY9
import Derived.Maps.OwnSet
import Derived.Test.YtpicnbidbddggaaGreatY42
import Derived.Test.YtpicnbidbddggaaGreatY45
import Derived.Test.YtpicnbidbddggaaGreatY46
import Derived.Test.YtpicnbidbddggaaGreatY30
import Derived.Test.YtpicnbidbddggaaGreatY32
import Derived.Test.YtpicnbidbddggaaGreatY44
/-
  The contract of Names: the names that a manifest's releases need, by way of a map and its sorted keys. Condition: lists of a length that may be walked.
-/
namespace Go.Proofs.YtpicnbidbddggaaGreat.Mani
open Go Go.RowKit Go.Lib Go.Proofs.YtpicnbidbddggaaGreat.Span Go.Proofs.YtpicnbidbddggaaGreat.Need
set_option linter.unusedVariables false
theorem texts_of (L : List ByteArray) : (L.map bytesOf).map encStr = tcs L := by
  rw [List.map_map]
  unfold tcs
  refine List.map_congr_left fun x _ => ?_
  simp [encStr, bytesOf]
end Go.Proofs.YtpicnbidbddggaaGreat.Mani
/-
  Contracts of the program's asked and fresh: the names of needs; those of some names that were not found yet, which are found from then on. Condition: lists and names of a length that may be walked.
-/
namespace Go.Proofs.YtpicnbidbddggaaGreat.Reach
open Go Go.RowKit Go.Lib Go.Proofs.YtpicnbidbddggaaGreat.Span Go.Proofs.YtpicnbidbddggaaGreat.Need Go.Proofs.YtpicnbidbddggaaGreat.Mani Go.Proofs.YtpicnbidbddggaaGreat.Wire Go.Proofs.YtpicnbidbddggaaGreat.Depot Go.Proofs.YtpicnbidbddggaaGreat.Index
set_option linter.unusedVariables false
def ShortN (l : List ByteArray) : Prop := ∀ x ∈ l, x.size ≤ 1000000000
abbrev OwnF (w : World) (b : Nat) (acc : List ByteArray) : Prop := w.ownsMap Tryz.prog 9 (unitElem (H := Unit)) b acc.length (setN acc)
def Freshes (w : World) (b : Nat) (acc l : List ByteArray) (e : Ending) (w' : World) : Prop :=
  ∃ v, e = .returned v ∧ w'.ownsRow w.heap.size 9 1 v (newF acc l).length (tcs (newF acc l)) ∧ OwnF w' b (acc ++ newF acc l) ∧ w.grownBy w' (some b)
end Go.Proofs.YtpicnbidbddggaaGreat.Reach
/-
  The contract of the program's Names, over whatever tells what is known (an index, or nil): what may be needed. Condition: as many names as may be walked.
-/
namespace Go.Proofs.YtpicnbidbddggaaGreat.Reach
open Go Go.RowKit Go.Lib Go.Sort Go.Proofs.YtpicnbidbddggaaGreat.Span Go.Proofs.YtpicnbidbddggaaGreat.Need Go.Proofs.YtpicnbidbddggaaGreat.Mani Go.Proofs.YtpicnbidbddggaaGreat.Wire Go.Proofs.YtpicnbidbddggaaGreat.Depot Go.Proofs.YtpicnbidbddggaaGreat.Index
set_option linter.unusedVariables false
def TellsX (w : World) (pv : Value) (X : List Kn) : Prop := ∀ (nm : ByteArray) (wx : World), Below w.heap.size w wx → nm.size ≤ 1000000000 →
  Calls Tryz.prog 35 #[pv, .string nm] wx (Gots wx nm (getX X nm)) ∧
  Calls Tryz.prog 34 #[pv, .string nm] wx fun e w' => e = .returned (.bool (atX X nm).isSome) ∧ wx = w'
theorem TellsX.on {w w' : World} {pv : Value} {X : List Kn} (h : TellsX w pv X) (hb : Below w.heap.size w w') : TellsX w' pv X := fun nm wx hx hn => h nm wx (hb.trans (hx.mono hb.size)) hn
theorem tells_idx {w : World} {B g : Nat} {X : List Kn} (h : IdxB w B g X) (hf : FineX X) : TellsX w (.pointer (some ⟨g, 0, none⟩)) X := fun nm wx hx hn => by
  obtain ⟨_, mo, h2, _⟩ := h
  exact ⟨get_any g mo X nm wx (h2.below hx) hf hn, has_any g mo X nm wx (h2.below hx) hn⟩
end Go.Proofs.YtpicnbidbddggaaGreat.Reach
/-
  What the program's functions of facts have to tell, one sentence each, as premises. Condition: none of its own.
-/
namespace Go.Proofs.YtpicnbidbddggaaGreat.Fact
open Go Go.RowKit Go.Lib Go.Proofs.YtpicnbidbddggaaGreat.Span Go.Proofs.YtpicnbidbddggaaGreat.Need Go.Proofs.YtpicnbidbddggaaGreat.Mani Go.Proofs.YtpicnbidbddggaaGreat.Depot Go.Proofs.YtpicnbidbddggaaGreat.Index Go.Proofs.YtpicnbidbddggaaGreat.Reach Go.Proofs.YtpicnbidbddggaaGreat.Term Go.Proofs.YtpicnbidbddggaaGreat.Clash Go.Proofs.YtpicnbidbddggaaGreat.Fit
set_option linter.unusedVariables false
def AskX (X : List Kn) (pv : Value) (w : World) : Prop := (∃ o : Option Addr, pv = .pointer o) ∧ TellsX w pv X ∧ OkX X
theorem AskX.on {X : List Kn} {pv : Value} {w w' : World} (h : AskX X pv w) (hb : Below w.heap.size w w') : AskX X pv w' := ⟨h.1, h.2.1.on hb, h.2.2⟩
def SpecAskedF : Prop := ∀ (root : List Nd) (nm : ByteArray) (A : Option Addr) (n c : Nat) (w : World), NdOn w A n root → n ≤ 40 → okS root = true → nm.size ≤ 1000000000 → Calls Tryz.prog 10 #[.slice A n c, .string nm] w (MakesC w (askedC root nm))
def SpecReleasedF : Prop := ∀ (X : List Kn) (nm : ByteArray) (pv : Value) (w : World), AskX X pv w → nm.size ≤ 1000000000 → Calls Tryz.prog 12 #[pv, .string nm] w (MakesC w (releasedC X nm))
def SpecNeededF : Prop := ∀ (X : List Kn) (nm : ByteArray) (v : Int) (tn : ByteArray) (pv : Value) (w : World), AskX X pv w → nm.size ≤ 1000000000 → tn.size ≤ 1000000000 → Calls Tryz.prog 14 #[pv, .string nm, .int .i64 v, .string tn] w (MakesC w (neededC X nm v tn))
def SpecRootF : Prop := ∀ (root : List Nd) (A : Option Addr) (n c : Nat) (w : World), NdOn w A n root → n ≤ 40 → okS root = true → Calls Tryz.prog 17 #[.slice A n c] w (FactsC w ((rootP root).map Prod.fst) ((rootP root).map Prod.snd))
def SpecAllF : Prop := ∀ (X : List Kn) (nm : ByteArray) (pv : Value) (w : World), AskX X pv w → nm.size ≤ 1000000000 → Calls Tryz.prog 19 #[pv, .string nm] w (FactsC w ((allP X nm).map Prod.fst) ((allP X nm).map Prod.snd))
theorem okX_puts {l : List En} (hf : FineX (putsX [] l)) (h : (putsX [] l).length ≤ 100) : OkX (putsX [] l) := ⟨hf, SetX.nil.puts l, VerK.nil.puts l, FitX.nil.puts l, h, RisX.nil.puts l⟩
end Go.Proofs.YtpicnbidbddggaaGreat.Fact
/-
  What ReachGrows wants: entries that stand first; that a put leaves texts alone; what is told of what more is known.
-/
namespace Go.Proofs.YtpicnbidbddggaaGreat.Reach
open Go Go.RowKit Go.Lib Go.Sort Go.Proofs.YtpicnbidbddggaaGreat.Span Go.Proofs.YtpicnbidbddggaaGreat.Need Go.Proofs.YtpicnbidbddggaaGreat.Mani Go.Proofs.YtpicnbidbddggaaGreat.Wire Go.Proofs.YtpicnbidbddggaaGreat.Depot Go.Proofs.YtpicnbidbddggaaGreat.Index
set_option linter.unusedVariables false
/-! What is told of what more is known. -/
def askedX (X : List Kn) (root : List Nd) (L : List ByteArray) (z : ByteArray) : Prop := z ∈ namesS root ∨ ∃ a ∈ L, z ∈ asksX X a
end Go.Proofs.YtpicnbidbddggaaGreat.Reach
