/-
  Some texts of this claim, one behind the other: ManiNewestProof. What each proves, and its condition, stands at its head.
-/
import Derived.Test.YtajgjkjhaafnfaaRows
import Derived.Test.YtajgjkjhaafnfaaZ2
import Derived.Test.YtajgjkjhaafnfaaZ23
import Derived.WalkKit
import Derived.ProofKit
import Derived.OpenShut
import Derived.ShutString
import Derived.ChangeOld
import Derived.Below
/-
  The law ManiNewest holds: for every input its call returns true and its arguments read afterwards as they did. No condition beyond the given row's own.
-/
namespace Go.Proofs.Ytajgjkjhaafnfaa.maniNewest
open Go.ChangeShapes Go.WideShapes Go.ChangeAt Go.RowKit
open Go.ChangeMaps (open_string shut_string)
set_option linter.unusedVariables false

theorem own : ownKnob Try.prog.godebug = none := by kernel_rfl
theorem laidOut : laidOutB Try.prog = true := by kernel_rfl

theorem walk (c0 : List Value) (l0 : (ByteArray) × (List ((Int) × (List ((ByteArray) × (List ((Int) × (Int)))))))) (a1 : Option Addr) (len1 cap1 : Nat) (l1 : List ((Int) × (Int))) (w : World) (w0 : (liePair (lieStr) (lieSlice (liePair (lieInt .i64) (lieSlice (liePair (lieStr) (lieSlice (liePair (lieInt .i64) (lieInt .i64)))))))).holds w w.heap.size c0 l0) (w1 : len1 ≤ cap1 ∧ cap1 ≤ maxLen ∧ (a1 = none → cap1 = 0) ∧ RowOf (liePair (lieInt .i64) (lieInt .i64)) w w.heap.size a1 len1 l1) :
    Calls Try.prog 5 #[.agg c0.toArray, .slice a1 len1 cap1] w fun e w' => e = .returned (.bool true) ∧ Below w.heap.size w w' := by
  obtain ⟨A0, n0, k0, e0, h01, h02, h03, h04⟩ := Mani.open_mani w0
  obtain ⟨_, _, _, hr1⟩ := w1
  subst e0
  exact Mani.newest_walk l0.1 l0.2 l1 A0 n0 k0 a1 len1 cap1 w h03 (Span.spOn_of hr1) h01 h02 h04

set_option maxRecDepth 100000 in
theorem op9 : Opens Try.prog 9 (lieStr) := opens_str Try.underlying9 (by kernel_rfl)
set_option maxRecDepth 100000 in
theorem op3 : Opens Try.prog 3 (lieInt .i64) := opens_int Try.underlying3 (by kernel_rfl)
set_option maxRecDepth 100000 in
theorem op55 : Opens Try.prog 55 (liePair (lieInt .i64) (lieInt .i64)) := opens_struct Try.underlying55 (by kernel_rfl) (opensF_cons rfl op3 (opensF_one rfl op3))
set_option maxRecDepth 100000 in
theorem op29 : Opens Try.prog 29 (lieSlice (liePair (lieInt .i64) (lieInt .i64))) := opens_slice Try.underlying29 (by kernel_rfl) op55 (by decide)
set_option maxRecDepth 100000 in
theorem op63 : Opens Try.prog 63 (liePair (lieStr) (lieSlice (liePair (lieInt .i64) (lieInt .i64)))) := opens_struct Try.underlying63 (by kernel_rfl) (opensF_cons rfl op9 (opensF_one rfl op29))
set_option maxRecDepth 100000 in
theorem op31 : Opens Try.prog 31 (lieSlice (liePair (lieStr) (lieSlice (liePair (lieInt .i64) (lieInt .i64))))) := opens_slice Try.underlying31 (by kernel_rfl) op63 (by decide)
set_option maxRecDepth 100000 in
theorem op33 : Opens Try.prog 33 (liePair (lieInt .i64) (lieSlice (liePair (lieStr) (lieSlice (liePair (lieInt .i64) (lieInt .i64)))))) := opens_struct Try.underlying33 (by kernel_rfl) (opensF_cons rfl op3 (opensF_one rfl op31))
set_option maxRecDepth 100000 in
theorem op22 : Opens Try.prog 22 (lieSlice (liePair (lieInt .i64) (lieSlice (liePair (lieStr) (lieSlice (liePair (lieInt .i64) (lieInt .i64))))))) := opens_slice Try.underlying22 (by kernel_rfl) op33 (by decide)
set_option maxRecDepth 100000 in
theorem op24 : Opens Try.prog 24 (liePair (lieStr) (lieSlice (liePair (lieInt .i64) (lieSlice (liePair (lieStr) (lieSlice (liePair (lieInt .i64) (lieInt .i64)))))))) := opens_struct Try.underlying24 (by kernel_rfl) (opensF_cons rfl op9 (opensF_one rfl op22))

set_option maxRecDepth 100000 in
theorem lifted (os : Os) (started : os.Started) (H : Type) (enc : TypeId × Value → H) :
    ReturnsInHanded {} Try.checked os 5 .any (Rows.maniNewestSpec.pre6 enc Try.prog Try.f5 Rows.maniNewestRow.domain false) (Rows.maniNewestSpec.post enc Try.prog Try.f5 false true false false) := by
  refine returnsInHanded_of_change (C := Try.checked) own started (by kernel_rfl) Try.func5
    (ChangeSpec.witness6 (enc := enc) (C := Try.checked) false ⟨#[], #[.agg #[.string ByteArray.empty, .slice none 0 0], .slice none 0 0], []⟩ 8 (by kernel_rfl) (by kernel_rfl) (by kernel_rfl) (by kernel_rfl)) ?_
  intro W base args ds gs before hval0 hW hcnd _
  have hval : ∀ (j : Nat) t v, Try.f5.params[j]? = some t → args[j]? = some v → Value.okWide Try.prog W .any base t v := hval0
  have hW' := hW
  obtain ⟨p, q, hA0, hV, rfl, hfz, hnd⟩ := hW
  have hA : DataW.TrodAll enc Try.prog W 0 (fun _ => true) true Try.f5.params.toList args.toList ds p := hA0
  rw [Try.params5] at hA hval
  obtain ⟨v0, vs0, d0, ds0, p0, q0, hargs, rfl, rfl, h0, r0⟩ := trodAll_cons hA
  obtain ⟨v1, vs1, d1, ds1, p1, q1, rfl, rfl, rfl, h1, r1⟩ := trodAll_cons r0
  obtain ⟨rfl, rfl, rfl⟩ := trodAll_nil r1
  obtain rfl : args = #[v0, v1] := by cases args; simp_all
  obtain ⟨rfl, rfl⟩ := trodVars_none hV
  obtain ⟨e0, rfl, hsz0⟩ := okWide_struct Try.underlying24 (hval 0 24 v0 rfl rfl)
  have k0 := h0
  have lt0 : ∀ x ∈ p0, x.block < W.heap.size := by obtain ⟨m, hm⟩ := k0; exact DataW.trod_lt m _ _ _ hm
  obtain ⟨c0, rfl⟩ : ∃ c : List Value, e0 = c.toArray := ⟨e0.toList, by simp⟩
  obtain ⟨l0, w0⟩ : ∃ l, (liePair (lieStr) (lieSlice (liePair (lieInt .i64) (lieSlice (liePair (lieStr) (lieSlice (liePair (lieInt .i64) (lieInt .i64)))))))).holds W W.heap.size c0 l := by
    obtain ⟨fuel, hf⟩ := h0
    simpa [Value.cells] using op24.2 enc W _ _ fuel _ _ hf
  obtain ⟨a1, len1, cap1, rfl⟩ := okWide_slice Try.underlying29 (hval 1 29 v1 rfl rfl)
  have k1 := h1
  have lt1 : ∀ x ∈ p1, x.block < W.heap.size := by obtain ⟨m, hm⟩ := k1; exact DataW.trod_lt m _ _ _ hm
  obtain ⟨l1, w1⟩ : ∃ l, len1 ≤ cap1 ∧ cap1 ≤ maxLen ∧ (a1 = none → cap1 = 0) ∧ RowOf (liePair (lieInt .i64) (lieInt .i64)) W W.heap.size a1 len1 l := by
    obtain ⟨fuel, hf⟩ := h1
    obtain ⟨d, A', n', c', e, h⟩ := op29.2 enc W _ _ fuel _ _ hf
    simp [Value.cells] at e
    obtain ⟨rfl, rfl, rfl⟩ := e
    exact ⟨d, h⟩
  clear hA0 hval0
  refine (walk c0 l0 a1 len1 cap1 l1 W w0 w1).mono fun e W' ⟨he, bel⟩ => ?_
  subst he
  exact ⟨_, rfl, _, _, _, [], _, [], hW', trodAll_mk1 (shut_bool Try.underlying4 _), (trodAll_cons_mk (Below.trod laidOut (by kernel_rfl) (of_decide_eq_true (by kernel_rfl)) k0 bel lt0) (trodAll_cons_mk (Below.trod laidOut (by kernel_rfl) (of_decide_eq_true (by kernel_rfl)) k1 bel lt1) trodAll_mk0)), rfl, bel.frame _, fun h => by cases h⟩

theorem over : Rows.maniNewestRow.holds Try.pinned (OpenSpec.ofChange Rows.maniNewestSpec) :=
  OpenClaim.holds_of_wide 5 Try.f5 rfl rfl rfl rfl rfl rfl rfl ⟨rfl, rfl, rfl, rfl, rfl⟩ rfl rfl rfl rfl rfl (by kernel_rfl) Try.func5 (by kernel_rfl)
    (of_decide_eq_true (by kernel_rfl)) (by unfold Func.isWrapper; first | (rw [if_pos (by decide +kernel)]; kernel_rfl) | (rw [if_neg (by decide +kernel)]; exact ⟨rfl, rfl⟩))
    (fun os started H enc _ => lifted os started H enc)

theorem proved : Rows.ManiNewestSaid := over
#print axioms proved
end Go.Proofs.Ytajgjkjhaafnfaa.maniNewest
