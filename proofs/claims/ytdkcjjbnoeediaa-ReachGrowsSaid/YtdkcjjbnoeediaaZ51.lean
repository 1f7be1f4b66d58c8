/-
  Some texts of this claim, one behind the other: ReachGrowsProof. What each proves, and its condition, stands at its head.
-/
import Derived.Test.YtdkcjjbnoeediaaRows
import Derived.Test.YtdkcjjbnoeediaaZ2
import Derived.Test.YtdkcjjbnoeediaaZ50
import Derived.WalkKit
import Derived.ProofKit
import Derived.OpenShut
import Derived.ShutString
import Derived.ChangeOld
import Derived.Below
/-
  The law ReachGrows holds: for every input its call returns true and its arguments read afterwards as they did. No condition beyond the given row's own.
-/
namespace Go.Proofs.Ytdkcjjbnoeediaa.reachGrows
open Go.ChangeShapes Go.WideShapes Go.ChangeAt Go.RowKit
open Go.ChangeMaps (open_string shut_string)
set_option linter.unusedVariables false

theorem own : ownKnob Try.prog.godebug = none := by kernel_rfl
theorem laidOut : laidOutB Try.prog = true := by kernel_rfl

theorem walk (a0 : Option Addr) (len0 cap0 : Nat) (l0 : List ((ByteArray) × (List (Int)))) (a1 : Int) (a2 : Option Addr) (len2 cap2 : Nat) (l2 : List ((ByteArray) × (List ((Int) × (Int))))) (w : World) (w0 : len0 ≤ cap0 ∧ cap0 ≤ maxLen ∧ (a0 = none → cap0 = 0) ∧ RowOf (liePair (lieStr) (lieSlice (lieInt .u8))) w w.heap.size a0 len0 l0) (w1 : (Lit.int .i64 a1).wf = true) (w2 : len2 ≤ cap2 ∧ cap2 ≤ maxLen ∧ (a2 = none → cap2 = 0) ∧ RowOf (liePair (lieStr) (lieSlice (liePair (lieInt .i64) (lieInt .i64)))) w w.heap.size a2 len2 l2) :
    Calls Try.prog 4 #[.slice a0 len0 cap0, .int .i64 a1, .slice a2 len2 cap2] w fun e w' => e = .returned (.bool true) ∧ Below w.heap.size w w' := by
  obtain ⟨hnc, hcm, _, hr0⟩ := w0
  obtain ⟨hnc2, hcm2, _, hr2⟩ := w2
  have he := Depot.enOn_of hr0
  exact Reach.grows_walk (Depot.toE l0) l2 a0 a2 len0 cap0 len2 cap2 a1 w he.1 (Need.ndOn_of hr2).1 (Nat.le_trans hnc (Nat.le_trans hcm (by unfold maxLen; omega))) (Nat.le_trans hnc2 (Nat.le_trans hcm2 (by unfold maxLen; omega))) hnc

set_option maxRecDepth 100000 in
theorem op9 : Opens Try.prog 9 (lieStr) := opens_str Try.underlying9 (by kernel_rfl)
set_option maxRecDepth 100000 in
theorem op5 : Opens Try.prog 5 (lieInt .u8) := opens_int Try.underlying5 (by kernel_rfl)
set_option maxRecDepth 100000 in
theorem op41 : Opens Try.prog 41 (lieSlice (lieInt .u8)) := opens_slice Try.underlying41 (by kernel_rfl) op5 (by decide)
set_option maxRecDepth 100000 in
theorem op43 : Opens Try.prog 43 (liePair (lieStr) (lieSlice (lieInt .u8))) := opens_struct Try.underlying43 (by kernel_rfl) (opensF_cons rfl op9 (opensF_one rfl op41))
set_option maxRecDepth 100000 in
theorem op22 : Opens Try.prog 22 (lieSlice (liePair (lieStr) (lieSlice (lieInt .u8)))) := opens_slice Try.underlying22 (by kernel_rfl) op43 (by decide)
set_option maxRecDepth 100000 in
theorem op3 : Opens Try.prog 3 (lieInt .i64) := opens_int Try.underlying3 (by kernel_rfl)
set_option maxRecDepth 100000 in
theorem op54 : Opens Try.prog 54 (liePair (lieInt .i64) (lieInt .i64)) := opens_struct Try.underlying54 (by kernel_rfl) (opensF_cons rfl op3 (opensF_one rfl op3))
set_option maxRecDepth 100000 in
theorem op47 : Opens Try.prog 47 (lieSlice (liePair (lieInt .i64) (lieInt .i64))) := opens_slice Try.underlying47 (by kernel_rfl) op54 (by decide)
set_option maxRecDepth 100000 in
theorem op49 : Opens Try.prog 49 (liePair (lieStr) (lieSlice (liePair (lieInt .i64) (lieInt .i64)))) := opens_struct Try.underlying49 (by kernel_rfl) (opensF_cons rfl op9 (opensF_one rfl op47))
set_option maxRecDepth 100000 in
theorem op23 : Opens Try.prog 23 (lieSlice (liePair (lieStr) (lieSlice (liePair (lieInt .i64) (lieInt .i64))))) := opens_slice Try.underlying23 (by kernel_rfl) op49 (by decide)

set_option maxRecDepth 100000 in
theorem lifted (os : Os) (started : os.Started) (H : Type) (enc : TypeId × Value → H) :
    ReturnsInHanded {} Try.checked os 4 .any (Rows.reachGrowsSpec.pre6 enc Try.prog Try.f4 Rows.reachGrowsRow.domain false) (Rows.reachGrowsSpec.post enc Try.prog Try.f4 false true false false) := by
  refine returnsInHanded_of_change (C := Try.checked) own started (by kernel_rfl) Try.func4
    (ChangeSpec.witness6 (enc := enc) (C := Try.checked) false ⟨#[], #[.slice none 0 0, .int .i64 0, .slice none 0 0], []⟩ 8 (by kernel_rfl) (by kernel_rfl) (by kernel_rfl) (by kernel_rfl)) ?_
  intro W base args ds gs before hval0 hW hcnd _
  have hval : ∀ (j : Nat) t v, Try.f4.params[j]? = some t → args[j]? = some v → Value.okWide Try.prog W .any base t v := hval0
  have hW' := hW
  obtain ⟨p, q, hA0, hV, rfl, hfz, hnd⟩ := hW
  have hA : DataW.TrodAll enc Try.prog W 0 (fun _ => true) true Try.f4.params.toList args.toList ds p := hA0
  rw [Try.params4] at hA hval
  obtain ⟨v0, vs0, d0, ds0, p0, q0, hargs, rfl, rfl, h0, r0⟩ := trodAll_cons hA
  obtain ⟨v1, vs1, d1, ds1, p1, q1, rfl, rfl, rfl, h1, r1⟩ := trodAll_cons r0
  obtain ⟨v2, vs2, d2, ds2, p2, q2, rfl, rfl, rfl, h2, r2⟩ := trodAll_cons r1
  obtain ⟨rfl, rfl, rfl⟩ := trodAll_nil r2
  obtain rfl : args = #[v0, v1, v2] := by cases args; simp_all
  obtain ⟨rfl, rfl⟩ := trodVars_none hV
  obtain ⟨a0, len0, cap0, rfl⟩ := okWide_slice Try.underlying22 (hval 0 22 v0 rfl rfl)
  have k0 := h0
  have lt0 : ∀ x ∈ p0, x.block < W.heap.size := by obtain ⟨m, hm⟩ := k0; exact DataW.trod_lt m _ _ _ hm
  obtain ⟨l0, w0⟩ : ∃ l, len0 ≤ cap0 ∧ cap0 ≤ maxLen ∧ (a0 = none → cap0 = 0) ∧ RowOf (liePair (lieStr) (lieSlice (lieInt .u8))) W W.heap.size a0 len0 l := by
    obtain ⟨fuel, hf⟩ := h0
    obtain ⟨d, A', n', c', e, h⟩ := op22.2 enc W _ _ fuel _ _ hf
    simp [Value.cells] at e
    obtain ⟨rfl, rfl, rfl⟩ := e
    exact ⟨d, h⟩
  obtain ⟨a1, rfl, rfl, rfl, w1⟩ := open_int Try.underlying3 (hval 1 3 v1 rfl rfl) h1
  obtain ⟨a2, len2, cap2, rfl⟩ := okWide_slice Try.underlying23 (hval 2 23 v2 rfl rfl)
  have k2 := h2
  have lt2 : ∀ x ∈ p2, x.block < W.heap.size := by obtain ⟨m, hm⟩ := k2; exact DataW.trod_lt m _ _ _ hm
  obtain ⟨l2, w2⟩ : ∃ l, len2 ≤ cap2 ∧ cap2 ≤ maxLen ∧ (a2 = none → cap2 = 0) ∧ RowOf (liePair (lieStr) (lieSlice (liePair (lieInt .i64) (lieInt .i64)))) W W.heap.size a2 len2 l := by
    obtain ⟨fuel, hf⟩ := h2
    obtain ⟨d, A', n', c', e, h⟩ := op23.2 enc W _ _ fuel _ _ hf
    simp [Value.cells] at e
    obtain ⟨rfl, rfl, rfl⟩ := e
    exact ⟨d, h⟩
  clear hA0 hval0
  refine (walk a0 len0 cap0 l0 a1 a2 len2 cap2 l2 W w0 w1 w2).mono fun e W' ⟨he, bel⟩ => ?_
  subst he
  exact ⟨_, rfl, _, _, _, [], _, [], hW', trodAll_mk1 (shut_bool Try.underlying4 _), (trodAll_cons_mk (Below.trod laidOut (by kernel_rfl) (of_decide_eq_true (by kernel_rfl)) k0 bel lt0) (trodAll_cons_mk (shut_int Try.underlying3 w1) (trodAll_cons_mk (Below.trod laidOut (by kernel_rfl) (of_decide_eq_true (by kernel_rfl)) k2 bel lt2) trodAll_mk0))), rfl, bel.frame _, fun h => by cases h⟩

theorem over : Rows.reachGrowsRow.holds Try.pinned (OpenSpec.ofChange Rows.reachGrowsSpec) :=
  OpenClaim.holds_of_wide 4 Try.f4 rfl rfl rfl rfl rfl rfl rfl ⟨rfl, rfl, rfl, rfl, rfl⟩ rfl rfl rfl rfl rfl (by kernel_rfl) Try.func4 (by kernel_rfl)
    (of_decide_eq_true (by kernel_rfl)) (by unfold Func.isWrapper; first | (rw [if_pos (by decide +kernel)]; kernel_rfl) | (rw [if_neg (by decide +kernel)]; exact ⟨rfl, rfl⟩))
    (fun os started H enc _ => lifted os started H enc)

theorem proved : Rows.ReachGrowsSaid := over
#print axioms proved
end Go.Proofs.Ytdkcjjbnoeediaa.reachGrows
