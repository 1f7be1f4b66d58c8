/-
  Some texts of this claim, one behind the other: ClashRefTold, ClashRefMake. What each proves, and its condition, stands at its head.
-/
import Derived.Test.YtckioihkknhfpaaGreatDoorX20
import Derived.Test.YtckioihkknhfpaaGreatDoorX27
import Derived.Test.YtckioihkknhfpaaGreatDoorX22
import Derived.Test.YtckioihkknhfpaaGreatDoorX28
import Derived.Test.YtckioihkknhfpaaGreatDoorX11
/-
  Contracts of the document's Same, Holds, Show and Find of clashes. Condition: the slices read as terms; for Holds sets; for Show at most 1,000 spans each, at most 1,000 terms.
-/
namespace Go.Proofs.YtckioihkknhfpaaGreatDoor.Clash
open Go.Proofs.YtckioihkknhfpaaGreatDoor.Pick (Pk PkOn getP refGetP_any)
open Go.Proofs.YtckioihkknhfpaaGreatDoor.Rule (showL show_len)
open Go Go.RowKit Go.Lib Go.Proofs.YtckioihkknhfpaaGreatDoor.Span Go.Proofs.YtckioihkknhfpaaGreatDoor.Need Go.Proofs.YtckioihkknhfpaaGreatDoor.Grow Go.Proofs.YtckioihkknhfpaaGreatDoor.Term
open Go.Proofs.YtckioihkknhfpaaGreatDoor.Label (runes fitL)
set_option linter.unusedVariables false
def ShortT (l : List Tm) : Prop := ∀ t ∈ l, t.set.length ≤ 1000000001
theorem FineT.short {l : List Tm} (h : FineT l) : ShortT l := fun t ht => (h t ht).2
theorem holdsT_is (q : St) (t : Tm) : holdsT q t = if (q t.name).isSome = true then has t.set ((q t.name).getD 0) else t.none := by
  unfold holdsT
  cases q t.name <;> simp
theorem showT_size {t : Tm} (h : t.set.length ≤ 1000) : (showT t).size ≤ 300000 := by
  unfold showT
  split
  · rename_i g
    have h1 := Label.fit_small t.name (okT_fit g)
    have h2 : (statesT t).size ≤ 200000 := by obtain ⟨nm, s, z⟩ := t; exact states_small rfl h
    simp only [ByteArray.size_append]
    have e1 : wBlank.size = 1 := rfl
    omega
  · exact Nat.zero_le _
theorem three_at {w0 w : World} {B g : Nat} (h : Below B w0 w) (hg : B ≤ g) (u v x : Value) : Below B w0 (((w.setCell ⟨g, 0, none⟩ u).setCell ⟨g, 1, none⟩ v).setCell ⟨g, 2, none⟩ x) :=
  ((h.setCell hg u).setCell hg v).setCell hg x
def FindsT (w : World) (t : Tm) (is : Bool) (e : Ending) (w' : World) : Prop := ∃ A n c, e = .returned (.tuple #[.agg #[.string t.name, .slice A n c, .bool t.none], .bool is]) ∧ SpOn w' A n t.set ∧ Below w.heap.size w w'
theorem term_size : (Tryz.prog.info? 30).map (·.size) = some 3 := by kernel_rfl
theorem results_row_tmp {P : Program} {fn : Func} {p u : Tmp} {ty : TypeId} (h : fn.results = #[.cell p ty, .tmp u]) (tmps : Array Value) (w : World) (g : Nat) (t : TypeId) (cs : Array Value) (fr : Nat × Nat) (d : TypeDesc) (v : Value)
    (hp : tmps.getD p undef = .pointer (some ⟨g, 0, none⟩)) (hv : tmps.getD u undef = v) (hg : w.heap[g]? = some (.cells cs t fr))
    (hu : P.underlying ty = some d) (hd : (match d with | .struct _ | .array _ _ => true | _ => false) = true) (hi : (P.info? ty).map (·.size) = some cs.size) :
    (results fn tmps).run P w = .ok (.tuple #[.agg cs, v]) w := by
  rw [results_cell_tmp h]
  simp only [hp, hv, asAddr, Sem.run_pure, Result.andThen_ok, run_loadVar_row w g t ty cs fr d hg hu hd hi]
end Go.Proofs.YtckioihkknhfpaaGreatDoor.Clash
/-
  Contracts of the document's Make and Join of clashes. Condition: terms that may be, of at most 10,000 spans together (for Join: 5,000), at most 1,000 of them.
-/
namespace Go.Proofs.YtckioihkknhfpaaGreatDoor.Clash
open Go.Proofs.YtckioihkknhfpaaGreatDoor.Pick (triP)
open Go Go.RowKit Go.Lib Go.Proofs.YtckioihkknhfpaaGreatDoor.Span Go.Proofs.YtckioihkknhfpaaGreatDoor.Need Go.Proofs.YtckioihkknhfpaaGreatDoor.Grow Go.Proofs.YtckioihkknhfpaaGreatDoor.Term
open Go.Proofs.YtckioihkknhfpaaGreatDoor.Label (runes fitL)
set_option linter.unusedVariables false
def MakesC (w : World) (r : Option (List Tm)) (e : Ending) (w' : World) : Prop := ∃ A n c, e = .returned (.tuple #[.slice A n c, .bool r.isSome]) ∧ TmOn w' A n (r.getD []) ∧ Below w.heap.size w w'
theorem own_one (w : World) (nm : ByteArray) (A : Option Addr) (n c : Nat) (z : Bool) (B : Nat) (hB : B ≤ w.heap.size) :
    (w.alloc (.cells #[.string nm, .slice A n c, .bool z] 30)).ownsRow B 30 3 (.slice (some ⟨w.heap.size, 0, none⟩) 1 1) 1 (tms [(nm, .slice A n c, z)]) :=
  ⟨rfl, .inr ⟨w.heap.size, 1, _, rfl, hB, heap_alloc_new w _, Nat.le_refl _, by decide, rfl, rfl⟩⟩
theorem left_step {P out : List Tm} {x : Tm} {i : Nat} {F : Option (List Tm)} (hF : (leftC (P.drop i)).map (fun q => out ++ q) = F) (hx : P[i]? = some x) :
    (emptyT x = true → F = none) ∧ (emptyT x = false → fullT x = true → (leftC (P.drop (i + 1))).map (fun q => out ++ q) = F) ∧ (emptyT x = false → fullT x = false → (leftC (P.drop (i + 1))).map (fun q => (out ++ [x]) ++ q) = F) := by
  rw [left_drop hx] at hF
  refine ⟨fun h => ?_, fun h h' => ?_, fun h h' => ?_⟩
  · rw [← hF, if_pos h]; rfl
  · rw [← hF, if_neg (by rw [h]; simp)]
    cases leftC (P.drop (i + 1)) <;> simp [h']
  · rw [← hF, if_neg (by rw [h]; simp)]
    cases leftC (P.drop (i + 1)) <;> simp [h']
theorem sum_drop (l : List Tm) (n : ByteArray) : sumC (dropC l n) ≤ sumC l := by
  induction l with
  | nil => simp [dropC, sumC]
  | cons x r ih =>
    unfold dropC at *
    rw [List.filter_cons, sumC_cons]
    split
    · rw [sumC_cons]; omega
    · omega
theorem find_isSome {l : List Tm} {n : ByteArray} {x : Tm} (h : findC l n = some x) : foundC l n = x := by unfold foundC; rw [h]; rfl
end Go.Proofs.YtckioihkknhfpaaGreatDoor.Clash
