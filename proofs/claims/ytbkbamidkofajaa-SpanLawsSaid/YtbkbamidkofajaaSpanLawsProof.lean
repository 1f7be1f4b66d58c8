/-
  The law SpanLaws holds: for every input its call returns true and its arguments read afterwards as they did. No condition beyond the given row's own.
-/
import Derived.Test.YtbkbamidkofajaaRows
import Derived.Test.YtbkbamidkofajaaLie
import Derived.Test.YtbkbamidkofajaaSpanLawsW
import Derived.WalkKit
import Derived.ProofKit
import Derived.OpenShut
import Derived.ShutString
import Derived.ChangeOld
import Derived.Below
namespace Go.Proofs.Ytbkbamidkofajaa.spanLaws
open Go.ChangeShapes Go.WideShapes Go.ChangeAt Go.RowKit
open Go.ChangeMaps (open_string shut_string)
set_option linter.unusedVariables false

theorem own : ownKnob Try.prog.godebug = none := by kernel_rfl
theorem laidOut : laidOutB Try.prog = true := by kernel_rfl

theorem walk (a0 : Option Addr) (len0 cap0 : Nat) (l0 : List ((Int) × (Int))) (a1 : Option Addr) (len1 cap1 : Nat) (l1 : List ((Int) × (Int))) (w : World) (w0 : len0 ≤ cap0 ∧ cap0 ≤ maxLen ∧ (a0 = none → cap0 = 0) ∧ RowOf (liePair (lieInt .i64) (lieInt .i64)) w w.heap.size a0 len0 l0) (w1 : len1 ≤ cap1 ∧ cap1 ≤ maxLen ∧ (a1 = none → cap1 = 0) ∧ RowOf (liePair (lieInt .i64) (lieInt .i64)) w w.heap.size a1 len1 l1) :
    Calls Try.prog 5 #[.slice a0 len0 cap0, .slice a1 len1 cap1] w fun e w' => e = .returned (.bool true) ∧ Below w.heap.size w w' := by
  obtain ⟨_, _, _, hr0⟩ := w0
  obtain ⟨_, _, _, hr1⟩ := w1
  have h0 := Span.spOn_of hr0
  have h1 := Span.spOn_of hr1
  by_cases h : len0 > 60 ∨ len1 > 60 ∨ Span.isSet (-1) l0 = false ∨ Span.isSet (-1) l1 = false
  · exact Span.laws_skip a0 len0 cap0 l0 a1 len1 cap1 l1 w h0 h1 h
  · have hq : ¬ len0 > 60 ∧ ¬ len1 > 60 ∧ ¬ Span.isSet (-1) l0 = false ∧ ¬ Span.isSet (-1) l1 = false := by
      refine ⟨fun x => h (.inl x), fun x => h (.inr (.inl x)), fun x => h (.inr (.inr (.inl x))), fun x => h (.inr (.inr (.inr x)))⟩
    obtain ⟨q0, q1, q2, q3⟩ := hq
    exact Span.laws_walk a0 len0 cap0 l0 a1 len1 cap1 l1 w (by omega) (by omega) h0 h1 (by simpa using q2) (by simpa using q3)

theorem op3 : Opens Try.prog 3 (lieInt .i64) := opens_int Try.underlying3 (by kernel_rfl)
theorem op34 : Opens Try.prog 34 (liePair (lieInt .i64) (lieInt .i64)) := opens_struct Try.underlying34 (by kernel_rfl) (opensF_cons rfl op3 (opensF_one rfl op3))
theorem op22 : Opens Try.prog 22 (lieSlice (liePair (lieInt .i64) (lieInt .i64))) := opens_slice Try.underlying22 (by kernel_rfl) op34 (by decide)

set_option maxRecDepth 100000 in
theorem lifted (os : Os) (started : os.Started) (H : Type) (enc : TypeId × Value → H) :
    ReturnsInHanded {} Try.checked os 5 .any (Rows.spanLawsSpec.pre6 enc Try.prog Try.f5 Rows.spanLawsRow.domain false) (Rows.spanLawsSpec.post enc Try.prog Try.f5 false true false false) := by
  refine returnsInHanded_of_change (C := Try.checked) own started (by kernel_rfl) Try.func5
    (ChangeSpec.witness6 (enc := enc) (C := Try.checked) false ⟨#[], #[.slice none 0 0, .slice none 0 0], []⟩ 8 (by kernel_rfl) (by kernel_rfl) (by kernel_rfl) (by kernel_rfl)) ?_
  intro W base args ds gs before hval0 hW hcnd _
  have hval : ∀ (j : Nat) t v, Try.f5.params[j]? = some t → args[j]? = some v → Value.okWide Try.prog W .any base t v := hval0
  have hW' := hW
  obtain ⟨p, q, hA0, hV, rfl, hfz, hnd⟩ := hW
  have hA : DataW.TrodAll enc Try.prog W 0 (fun _ => true) true Try.f5.params.toList args.toList ds p := hA0
  rw [Try.params5] at hA hval
  obtain ⟨v0, vs0, d0, ds0, p0, q0, hargs, rfl, rfl, h0, r0⟩ := trodAll_cons hA
  obtain ⟨v1, vs1, d1, ds1, p1, q1, rfl, rfl, rfl, h1, r1⟩ := trodAll_cons r0
  obtain ⟨rfl, rfl, rfl⟩ := trodAll_nil r1
  obtain rfl : args = #[v0, v1] := by cases args; simp_all
  obtain ⟨rfl, rfl⟩ := trodVars_none hV
  obtain ⟨a0, len0, cap0, rfl⟩ := okWide_slice Try.underlying22 (hval 0 22 v0 rfl rfl)
  have k0 := h0
  have lt0 : ∀ x ∈ p0, x.block < W.heap.size := by obtain ⟨m, hm⟩ := k0; exact DataW.trod_lt m _ _ _ hm
  obtain ⟨l0, w0⟩ : ∃ l, len0 ≤ cap0 ∧ cap0 ≤ maxLen ∧ (a0 = none → cap0 = 0) ∧ RowOf (liePair (lieInt .i64) (lieInt .i64)) W W.heap.size a0 len0 l := by
    obtain ⟨fuel, hf⟩ := h0
    obtain ⟨d, A', n', c', e, h⟩ := op22.2 enc W _ _ fuel _ _ hf
    simp [Value.cells] at e
    obtain ⟨rfl, rfl, rfl⟩ := e
    exact ⟨d, h⟩
  obtain ⟨a1, len1, cap1, rfl⟩ := okWide_slice Try.underlying22 (hval 1 22 v1 rfl rfl)
  have k1 := h1
  have lt1 : ∀ x ∈ p1, x.block < W.heap.size := by obtain ⟨m, hm⟩ := k1; exact DataW.trod_lt m _ _ _ hm
  obtain ⟨l1, w1⟩ : ∃ l, len1 ≤ cap1 ∧ cap1 ≤ maxLen ∧ (a1 = none → cap1 = 0) ∧ RowOf (liePair (lieInt .i64) (lieInt .i64)) W W.heap.size a1 len1 l := by
    obtain ⟨fuel, hf⟩ := h1
    obtain ⟨d, A', n', c', e, h⟩ := op22.2 enc W _ _ fuel _ _ hf
    simp [Value.cells] at e
    obtain ⟨rfl, rfl, rfl⟩ := e
    exact ⟨d, h⟩
  clear hA0 hval0
  refine (walk a0 len0 cap0 l0 a1 len1 cap1 l1 W w0 w1).mono fun e W' ⟨he, bel⟩ => ?_
  subst he
  exact ⟨_, rfl, _, _, _, [], _, [], hW', trodAll_mk1 (shut_bool Try.underlying4 _), (trodAll_cons_mk (Below.trod laidOut (by kernel_rfl) (of_decide_eq_true (by kernel_rfl)) k0 bel lt0) (trodAll_cons_mk (Below.trod laidOut (by kernel_rfl) (of_decide_eq_true (by kernel_rfl)) k1 bel lt1) trodAll_mk0)), rfl, bel.frame _, fun h => by cases h⟩

theorem over : Rows.spanLawsRow.holds Try.pinned (OpenSpec.ofChange Rows.spanLawsSpec) :=
  OpenClaim.holds_of_wide 5 Try.f5 rfl rfl rfl rfl rfl rfl rfl ⟨rfl, rfl, rfl, rfl, rfl⟩ rfl rfl rfl rfl rfl (by kernel_rfl) Try.func5 (by kernel_rfl)
    (of_decide_eq_true (by kernel_rfl)) (by unfold Func.isWrapper; first | (rw [if_pos (by decide +kernel)]; kernel_rfl) | (rw [if_neg (by decide +kernel)]; exact ⟨rfl, rfl⟩))
    (fun os started H enc _ => lifted os started H enc)

theorem proved : Rows.SpanLawsSaid := over
#print axioms proved
end Go.Proofs.Ytbkbamidkofajaa.spanLaws
