/-
  Some texts of this claim, one behind the other: ProofTrimsProof. What each proves, and its condition, stands at its head.
-/
import Derived.Test.YtdggnakjfcmnmaaRows
import Derived.Test.YtdggnakjfcmnmaaZB2
import Derived.Test.YtdggnakjfcmnmaaZB28
import Derived.Test.YtdggnakjfcmnmaaZB31
import Derived.Test.YtdggnakjfcmnmaaZB34
import Derived.Test.YtdggnakjfcmnmaaZB37
import Derived.WalkKit
import Derived.ProofKit
import Derived.OpenShut
import Derived.ShutString
import Derived.ChangeOld
import Derived.Below
/-
  The law ProofTrims holds: for every input its call returns true and its arguments read afterwards as they did. No condition beyond the given row's own.
-/
namespace Go.Proofs.Ytdggnakjfcmnmaa.proofTrims
open Go.ChangeShapes Go.WideShapes Go.ChangeAt Go.RowKit
open Go.ChangeMaps (open_string shut_string)
set_option linter.unusedVariables false

theorem own : ownKnob Try.prog.godebug = none := by kernel_rfl
theorem laidOut : laidOutB Try.prog = true := by kernel_rfl

theorem walk (a0 : Option Addr) (len0 cap0 : Nat) (l0 : List ((Int) × (ByteArray) × (Int) × (ByteArray) × (Int) × (Int))) (w : World) (w0 : len0 ≤ cap0 ∧ cap0 ≤ maxLen ∧ (a0 = none → cap0 = 0) ∧ RowOf (liePair (lieInt .i64) (liePair (lieStr) (liePair (lieInt .i64) (liePair (lieStr) (liePair (lieInt .i64) (lieInt .i64)))))) w w.heap.size a0 len0 l0) :
    Calls Try.prog 5 #[.slice a0 len0 cap0] w fun e w' => e = .returned (.bool true) ∧ Below w.heap.size w w' := by
  unfold maxLen at *
  obtain ⟨k0, k1, _, hr0⟩ := w0
  exact Proof.ptrims_walk Proof.specCheckPf Proof.specSamePf (Proof.specTrimPf Proof.specMarkPf) Proof.specLeavesPf (l0.map Proof.toSp) a0 len0 cap0 w (Proof.pfOn_of hr0).1 (by omega) k0

set_option maxRecDepth 100000 in
theorem op3 : Opens Try.prog 3 (lieInt .i64) := opens_int Try.underlying3 (by kernel_rfl)
set_option maxRecDepth 100000 in
theorem op9 : Opens Try.prog 9 (lieStr) := opens_str Try.underlying9 (by kernel_rfl)
set_option maxRecDepth 100000 in
theorem op40 : Opens Try.prog 40 (liePair (lieInt .i64) (liePair (lieStr) (liePair (lieInt .i64) (liePair (lieStr) (liePair (lieInt .i64) (lieInt .i64)))))) := opens_struct Try.underlying40 (by kernel_rfl) (opensF_cons rfl op3 (opensF_cons rfl op9 (opensF_cons rfl op3 (opensF_cons rfl op9 (opensF_cons rfl op3 (opensF_one rfl op3))))))
set_option maxRecDepth 100000 in
theorem op22 : Opens Try.prog 22 (lieSlice (liePair (lieInt .i64) (liePair (lieStr) (liePair (lieInt .i64) (liePair (lieStr) (liePair (lieInt .i64) (lieInt .i64))))))) := opens_slice Try.underlying22 (by kernel_rfl) op40 (by decide)

set_option maxRecDepth 100000 in
theorem lifted (os : Os) (started : os.Started) (H : Type) (enc : TypeId × Value → H) :
    ReturnsInHanded {} Try.checked os 5 .any (Rows.proofTrimsSpec.pre6 enc Try.prog Try.f5 Rows.proofTrimsRow.domain false) (Rows.proofTrimsSpec.post enc Try.prog Try.f5 false true false false) := by
  refine returnsInHanded_of_change (C := Try.checked) own started (by kernel_rfl) Try.func5
    (ChangeSpec.witness6 (enc := enc) (C := Try.checked) false ⟨#[], #[.slice none 0 0], []⟩ 8 (by kernel_rfl) (by kernel_rfl) (by kernel_rfl) (by kernel_rfl)) ?_
  intro W base args ds gs before hval0 hW hcnd _
  have hval : ∀ (j : Nat) t v, Try.f5.params[j]? = some t → args[j]? = some v → Value.okWide Try.prog W .any base t v := hval0
  have hW' := hW
  obtain ⟨p, q, hA0, hV, rfl, hfz, hnd⟩ := hW
  have hA : DataW.TrodAll enc Try.prog W 0 (fun _ => true) true Try.f5.params.toList args.toList ds p := hA0
  rw [Try.params5] at hA hval
  obtain ⟨v0, vs0, d0, ds0, p0, q0, hargs, rfl, rfl, h0, r0⟩ := trodAll_cons hA
  obtain ⟨rfl, rfl, rfl⟩ := trodAll_nil r0
  obtain rfl : args = #[v0] := by cases args; simp_all
  obtain ⟨rfl, rfl⟩ := trodVars_none hV
  obtain ⟨a0, len0, cap0, rfl⟩ := okWide_slice Try.underlying22 (hval 0 22 v0 rfl rfl)
  have k0 := h0
  have lt0 : ∀ x ∈ p0, x.block < W.heap.size := by obtain ⟨m, hm⟩ := k0; exact DataW.trod_lt m _ _ _ hm
  obtain ⟨l0, w0⟩ : ∃ l, len0 ≤ cap0 ∧ cap0 ≤ maxLen ∧ (a0 = none → cap0 = 0) ∧ RowOf (liePair (lieInt .i64) (liePair (lieStr) (liePair (lieInt .i64) (liePair (lieStr) (liePair (lieInt .i64) (lieInt .i64)))))) W W.heap.size a0 len0 l := by
    obtain ⟨fuel, hf⟩ := h0
    obtain ⟨d, A', n', c', e, h⟩ := op22.2 enc W _ _ fuel _ _ hf
    simp [Value.cells] at e
    obtain ⟨rfl, rfl, rfl⟩ := e
    exact ⟨d, h⟩
  clear hA0 hval0
  refine (walk a0 len0 cap0 l0 W w0).mono fun e W' ⟨he, bel⟩ => ?_
  subst he
  exact ⟨_, rfl, _, _, _, [], _, [], hW', trodAll_mk1 (shut_bool Try.underlying4 _), (trodAll_cons_mk (Below.trod laidOut (by kernel_rfl) (of_decide_eq_true (by kernel_rfl)) k0 bel lt0) trodAll_mk0), rfl, bel.frame _, fun h => by cases h⟩

theorem over : Rows.proofTrimsRow.holds Try.pinned (OpenSpec.ofChange Rows.proofTrimsSpec) :=
  OpenClaim.holds_of_wide 5 Try.f5 rfl rfl rfl rfl rfl rfl rfl ⟨rfl, rfl, rfl, rfl, rfl⟩ rfl rfl rfl rfl rfl (by kernel_rfl) Try.func5 (by kernel_rfl)
    (of_decide_eq_true (by kernel_rfl)) (by unfold Func.isWrapper; first | (rw [if_pos (by decide +kernel)]; kernel_rfl) | (rw [if_neg (by decide +kernel)]; exact ⟨rfl, rfl⟩))
    (fun os started H enc _ => lifted os started H enc)

theorem proved : Rows.ProofTrimsSaid := over
#print axioms proved
end Go.Proofs.Ytdggnakjfcmnmaa.proofTrims
