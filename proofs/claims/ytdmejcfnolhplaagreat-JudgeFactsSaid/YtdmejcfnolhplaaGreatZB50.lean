/-
  Some texts of this claim, one behind the other: JudgeRef, ReachNames, FactSpec, JudgeSpec, ReachAwakeM. What each proves, and its condition, stands at its head.
-/
import Derived.Test.YtdmejcfnolhplaaGreatZB43
import Derived.Test.YtdmejcfnolhplaaGreatZB45
import Derived.Test.YtdmejcfnolhplaaGreatZB40
import Derived.Test.YtdmejcfnolhplaaGreatZB9
import Derived.Test.YtdmejcfnolhplaaGreatZB35
import Derived.Deep.RegionHeld3
import Derived.Test.YtdmejcfnolhplaaGreatZB30
import Derived.Test.YtdmejcfnolhplaaGreatZB48
import Derived.Test.YtdmejcfnolhplaaGreatZB20
import Derived.Test.YtdmejcfnolhplaaGreatZB16
import Derived.Test.YtdmejcfnolhplaaGreatZB19
import Derived.Test.YtdmejcfnolhplaaGreatZB12
import Derived.Maps.OwnSet
import Derived.Test.YtdmejcfnolhplaaGreatZB33
import Derived.Test.YtdmejcfnolhplaaGreatZB34
import Derived.Test.YtdmejcfnolhplaaGreatZB28
/-
  Contracts of the document's own one, Clashes and Accept of a proof's steps. Condition: needs that may be; an index that was put together; steps that may be, at most 120.
-/
namespace Go.Proofs.YtdmejcfnolhplaaGreat.Judge
open Go Go.RowKit Go.Lib Go.Proofs.YtdmejcfnolhplaaGreat.Label Go.Proofs.YtdmejcfnolhplaaGreat.Span Go.Proofs.YtdmejcfnolhplaaGreat.Need Go.Proofs.YtdmejcfnolhplaaGreat.Mani Go.Proofs.YtdmejcfnolhplaaGreat.Index Go.Proofs.YtdmejcfnolhplaaGreat.Pick Go.Proofs.YtdmejcfnolhplaaGreat.Fit Go.Proofs.YtdmejcfnolhplaaGreat.Term Go.Proofs.YtdmejcfnolhplaaGreat.Clash Go.Proofs.YtdmejcfnolhplaaGreat.Proof
open Go.Proofs.YtdmejcfnolhplaaGreat.Fact (askedC releasedC neededC OkX TmR MakesR FcR FcIn FcOn Fcs AllF info_terms one_sliceJ)
set_option linter.unusedVariables false
def FewC (c : List Tm) : Prop := (∀ t ∈ c, okT t = true) ∧ c.length ≤ 240 ∧ sumC c ≤ 1080
theorem FewC.nil : FewC [] := ⟨(fun t ht => by cases ht), by simp, by simp [sumC]⟩
theorem clash_step {X : List Kn} {root : List Nd} {l : List Sp} {o : List (List Tm)} {i : Nat} {s : Sp} (h : l[i]? = some s) : clashC X root (l.drop i) o = match oneC X root s o with | some c => clashC X root (l.drop (i + 1)) (o ++ [c]) | none => o := by
  obtain ⟨hi, e⟩ := List.getElem?_eq_some_iff.1 h
  rw [List.drop_eq_getElem_cons hi, e, clashC]
  cases oneC X root s o <;> rfl
end Go.Proofs.YtdmejcfnolhplaaGreat.Judge
/-
  The contract of the program's Names, over whatever tells what is known (an index, or nil): what may be needed. Condition: as many names as may be walked.
-/
namespace Go.Proofs.YtdmejcfnolhplaaGreat.Reach
open Go Go.RowKit Go.Lib Go.Sort Go.Proofs.YtdmejcfnolhplaaGreat.Span Go.Proofs.YtdmejcfnolhplaaGreat.Need Go.Proofs.YtdmejcfnolhplaaGreat.Mani Go.Proofs.YtdmejcfnolhplaaGreat.Wire Go.Proofs.YtdmejcfnolhplaaGreat.Depot Go.Proofs.YtdmejcfnolhplaaGreat.Index
set_option linter.unusedVariables false
def TellsX (w : World) (pv : Value) (X : List Kn) : Prop := ∀ (nm : ByteArray) (wx : World), Below w.heap.size w wx → nm.size ≤ 1000000000 →
  Calls Tryz.prog 76 #[pv, .string nm] wx (Gots wx nm (getX X nm)) ∧
  Calls Tryz.prog 43 #[pv, .string nm] wx fun e w' => e = .returned (.bool (atX X nm).isSome) ∧ wx = w'
theorem TellsX.on {w w' : World} {pv : Value} {X : List Kn} (h : TellsX w pv X) (hb : Below w.heap.size w w') : TellsX w' pv X := fun nm wx hx hn => h nm wx (hb.trans (hx.mono hb.size)) hn
theorem tells_idx {w : World} {B g : Nat} {X : List Kn} (h : IdxB w B g X) (hf : FineX X) : TellsX w (.pointer (some ⟨g, 0, none⟩)) X := fun nm wx hx hn => by
  obtain ⟨_, mo, h2, _⟩ := h
  exact ⟨get_any g mo X nm wx (h2.below hx) hf hn, has_any g mo X nm wx (h2.below hx) hn⟩
end Go.Proofs.YtdmejcfnolhplaaGreat.Reach
/-
  What the program's functions of facts have to tell, one sentence each, as premises. Condition: none of its own.
-/
namespace Go.Proofs.YtdmejcfnolhplaaGreat.Fact
open Go Go.RowKit Go.Lib Go.Proofs.YtdmejcfnolhplaaGreat.Span Go.Proofs.YtdmejcfnolhplaaGreat.Need Go.Proofs.YtdmejcfnolhplaaGreat.Mani Go.Proofs.YtdmejcfnolhplaaGreat.Depot Go.Proofs.YtdmejcfnolhplaaGreat.Index Go.Proofs.YtdmejcfnolhplaaGreat.Reach Go.Proofs.YtdmejcfnolhplaaGreat.Term Go.Proofs.YtdmejcfnolhplaaGreat.Clash Go.Proofs.YtdmejcfnolhplaaGreat.Fit
set_option linter.unusedVariables false
def AskX (X : List Kn) (pv : Value) (w : World) : Prop := (∃ o : Option Addr, pv = .pointer o) ∧ TellsX w pv X ∧ OkX X
theorem AskX.on {X : List Kn} {pv : Value} {w w' : World} (h : AskX X pv w) (hb : Below w.heap.size w w') : AskX X pv w' := ⟨h.1, h.2.1.on hb, h.2.2⟩
theorem okX_puts {l : List En} (hf : FineX (putsX [] l)) (h : (putsX [] l).length ≤ 100) : OkX (putsX [] l) := ⟨hf, SetX.nil.puts l, VerK.nil.puts l, FitX.nil.puts l, h, RisX.nil.puts l⟩
end Go.Proofs.YtdmejcfnolhplaaGreat.Fact
/-
  The document's own Accept of steps, and what is more than is looked at; what the program's Accept, Clashes and Last have to tell, as premises. Condition: needs that may be; an index that was put together; at most 120 steps.
-/
namespace Go.Proofs.YtdmejcfnolhplaaGreat.Judge
open Go Go.RowKit Go.Lib Go.Proofs.YtdmejcfnolhplaaGreat.Label Go.Proofs.YtdmejcfnolhplaaGreat.Span Go.Proofs.YtdmejcfnolhplaaGreat.Need Go.Proofs.YtdmejcfnolhplaaGreat.Mani Go.Proofs.YtdmejcfnolhplaaGreat.Index Go.Proofs.YtdmejcfnolhplaaGreat.Pick Go.Proofs.YtdmejcfnolhplaaGreat.Fit Go.Proofs.YtdmejcfnolhplaaGreat.Term Go.Proofs.YtdmejcfnolhplaaGreat.Clash Go.Proofs.YtdmejcfnolhplaaGreat.Proof
open Go.Proofs.YtdmejcfnolhplaaGreat.Fact (OkX FcR FcIn FcOn AskX)
set_option linter.unusedVariables false
def NamesJ (l : List Sp) : Prop := ∀ q ∈ l, q.name.size ≤ 1000000000 ∧ q.dest.size ≤ 1000000000
noncomputable def acceptB (X : List Kn) (root : List Nd) (l : List Sp) : Bool := okPf l && (decide ((clashC X root l []).length = l.length) && decide ((clashC X root l [])[l.length - 1]? = some []))
noncomputable def lastC (X : List Kn) (root : List Nd) (l : List Sp) : List Tm := if (clashC X root l []).length = l.length then ((clashC X root l [])[l.length - 1]?).getD [] else []
def SpecAcceptJ : Prop := ∀ (X : List Kn) (root : List Nd) (l : List Sp) (pv : Value) (Ar A : Option Addr) (nr cr n c : Nat) (w : World), AskX X pv w → EightX X → NdOn w Ar nr root → nr ≤ 40 → okS root = true → PfOn w A n l → n ≤ c → NamesJ l → n ≤ 120 →
  Calls Tryz.prog 12 #[pv, .slice Ar nr cr, .slice A n c] w fun e w' => e = .returned (.bool (acceptB X root l)) ∧ Below w.heap.size w w'
def SpecClashesJ : Prop := ∀ (X : List Kn) (root : List Nd) (l : List Sp) (pv : Value) (Ar A : Option Addr) (nr cr n c : Nat) (w : World), AskX X pv w → EightX X → NdOn w Ar nr root → nr ≤ 40 → okS root = true → PfOn w A n l → n ≤ c → okPf l = true → n ≤ 120 →
  Calls Tryz.prog 15 #[pv, .slice Ar nr cr, .slice A n c] w fun e w' => ∃ A' n' c', e = .returned (.tuple #[.slice A' n' c', .int .i64 (n' : Int)]) ∧ n' ≤ c' ∧ FcOn w' A' n' (clashC X root l []) ∧ Below w.heap.size w w'
def largeJ (l : List Sp) : Bool := decide (120 < l.length) || largeS l
theorem largeJ_no {l : List Sp} (h : largeJ l = false) : l.length ≤ 120 ∧ NamesJ l := by
  unfold largeJ at h
  simp only [Bool.or_eq_false_iff, decide_eq_false_iff_not] at h
  exact ⟨by omega, fun s hs => by have := large_fine h.2 s hs; omega⟩
set_option maxHeartbeats 4000000 in
set_option maxRecDepth 100000 in
theorem largeJ_any (l : List Sp) (A : Option Addr) (n c : Nat) (w : World) (h : PfOn w A n l) (hn : n ≤ 9223372036854775807) :
    Calls Tryz.prog 8 #[.slice A n c] w fun e w' => e = .returned (.bool (largeJ l)) ∧ w' = w := by
  have HL := hide (largeS_any l A n c w h hn)
  have hlen := h.len
  unfold largeJ
  rw [hlen]
  by_cases g : 120 < n
  · have g2 : (120 : Int) < (n : Int) := by omega
    rw [decide_eq_true g]
    clear h hlen g hn
    go_enter Tryz.func8, Tryz.ntmps8
    go_wp2
    go_ret
    exact ⟨rfl, rfl⟩
  · have g2 : ¬ (120 : Int) < (n : Int) := by omega
    rw [decide_eq_false g, Bool.false_or]
    clear h hlen g hn
    go_enter Tryz.func8, Tryz.ntmps8
    go_wp2_with (first
      | (go_at_call 25
         refine HL.out.mono ?_
         rintro e w ⟨rfl, rfl⟩))
    go_ret
    exact ⟨rfl, rfl⟩
end Go.Proofs.YtdmejcfnolhplaaGreat.Judge
/-
  The chapter's example, as plain data: a needs b, which is not known. No condition.
-/
namespace Go.Proofs.YtdmejcfnolhplaaGreat.Reach
open Go Go.RowKit Go.Lib Go.Sort Go.Proofs.YtdmejcfnolhplaaGreat.Span Go.Proofs.YtdmejcfnolhplaaGreat.Need Go.Proofs.YtdmejcfnolhplaaGreat.Mani Go.Proofs.YtdmejcfnolhplaaGreat.Wire Go.Proofs.YtdmejcfnolhplaaGreat.Depot Go.Proofs.YtdmejcfnolhplaaGreat.Index
open Go.Proofs.YtdmejcfnolhplaaGreat.Vlq (enc hi_zero held)
open Go.Proofs.YtdmejcfnolhplaaGreat.Label (runes fitL runes_step runes_end rn wd)
set_option linter.unusedVariables false
theorem nlt_str (l m : List UInt8) : nlt (str l) (str m) = Op.bytesLess l m := by unfold nlt; rw [str_toList, str_toList]
end Go.Proofs.YtdmejcfnolhplaaGreat.Reach
