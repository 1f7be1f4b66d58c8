/-
  Some texts of this claim, one behind the other: ProofBytesProof. What each proves, and its condition, stands at its head.
-/
import Derived.Test.YtdggnakjfcmnmaaRows
import Derived.Test.YtdggnakjfcmnmaaZC2
import Derived.Test.YtdggnakjfcmnmaaZC32
import Derived.Test.YtdggnakjfcmnmaaZC28
import Derived.Test.YtdggnakjfcmnmaaZC34
import Derived.Test.YtdggnakjfcmnmaaZC37
import Derived.WalkKit
import Derived.ProofKit
import Derived.OpenShut
import Derived.ShutString
import Derived.ChangeOld
import Derived.Below
/-
  The law ProofBytes holds: for every input its call returns true and its arguments read afterwards as they did. No condition beyond the given row's own.
-/
namespace Go.Proofs.Ytdggnakjfcmnmaa.proofBytes
open Go.ChangeShapes Go.WideShapes Go.ChangeAt Go.RowKit
open Go.ChangeMaps (open_string shut_string)
set_option linter.unusedVariables false

theorem own : ownKnob Try.prog.godebug = none := by kernel_rfl
theorem laidOut : laidOutB Try.prog = true := by kernel_rfl

theorem walk (a0 : Option Addr) (len0 cap0 : Nat) (l0 : List ((Int) × (ByteArray) × (Int) × (ByteArray) × (Int) × (Int))) (a1 : Option Addr) (len1 cap1 : Nat) (l1 : List (Int)) (w : World) (w0 : len0 ≤ cap0 ∧ cap0 ≤ maxLen ∧ (a0 = none → cap0 = 0) ∧ RowOf (liePair (lieInt .i64) (liePair (lieStr) (liePair (lieInt .i64) (liePair (lieStr) (liePair (lieInt .i64) (lieInt .i64)))))) w w.heap.size a0 len0 l0) (w1 : len1 ≤ cap1 ∧ cap1 ≤ maxLen ∧ (a1 = none → cap1 = 0) ∧ RowOf (lieInt .u8) w w.heap.size a1 len1 l1) :
    Calls Try.prog 4 #[.slice a0 len0 cap0, .slice a1 len1 cap1] w fun e w' => e = .returned (.bool true) ∧ Below w.heap.size w w' := by
  unfold maxLen at *
  obtain ⟨k0, k1, _, hr0⟩ := w0
  obtain ⟨j0, j1, _, hr1⟩ := w1
  exact Proof.pbytes_walk Proof.specCheckPf (Proof.specTrimPf Proof.specMarkPf) Proof.specPutPf Proof.specReadPf (l0.map Proof.toSp) _ a0 a1 len0 cap0 len1 cap1 w (Proof.pfOn_of hr0).1 (row_as_bytes hr1) (by omega) (by omega)

set_option maxRecDepth 100000 in
theorem op3 : Opens Try.prog 3 (lieInt .i64) := opens_int Try.underlying3 (by kernel_rfl)
set_option maxRecDepth 100000 in
theorem op9 : Opens Try.prog 9 (lieStr) := opens_str Try.underlying9 (by kernel_rfl)
set_option maxRecDepth 100000 in
theorem op40 : Opens Try.prog 40 (liePair (lieInt .i64) (liePair (lieStr) (liePair (lieInt .i64) (liePair (lieStr) (liePair (lieInt .i64) (lieInt .i64)))))) := opens_struct Try.underlying40 (by kernel_rfl) (opensF_cons rfl op3 (opensF_cons rfl op9 (opensF_cons rfl op3 (opensF_cons rfl op9 (opensF_cons rfl op3 (opensF_one rfl op3))))))
set_option maxRecDepth 100000 in
theorem op22 : Opens Try.prog 22 (lieSlice (liePair (lieInt .i64) (liePair (lieStr) (liePair (lieInt .i64) (liePair (lieStr) (liePair (lieInt .i64) (lieInt .i64))))))) := opens_slice Try.underlying22 (by kernel_rfl) op40 (by decide)
set_option maxRecDepth 100000 in
theorem op5 : Opens Try.prog 5 (lieInt .u8) := opens_int Try.underlying5 (by kernel_rfl)
set_option maxRecDepth 100000 in
theorem op30 : Opens Try.prog 30 (lieSlice (lieInt .u8)) := opens_slice Try.underlying30 (by kernel_rfl) op5 (by decide)

set_option maxRecDepth 100000 in
theorem lifted (os : Os) (started : os.Started) (H : Type) (enc : TypeId × Value → H) :
    ReturnsInHanded {} Try.checked os 4 .any (Rows.proofBytesSpec.pre6 enc Try.prog Try.f4 Rows.proofBytesRow.domain false) (Rows.proofBytesSpec.post enc Try.prog Try.f4 false true false false) := by
  refine returnsInHanded_of_change (C := Try.checked) own started (by kernel_rfl) Try.func4
    (ChangeSpec.witness6 (enc := enc) (C := Try.checked) false ⟨#[], #[.slice none 0 0, .slice none 0 0], []⟩ 8 (by kernel_rfl) (by kernel_rfl) (by kernel_rfl) (by kernel_rfl)) ?_
  intro W base args ds gs before hval0 hW hcnd _
  have hval : ∀ (j : Nat) t v, Try.f4.params[j]? = some t → args[j]? = some v → Value.okWide Try.prog W .any base t v := hval0
  have hW' := hW
  obtain ⟨p, q, hA0, hV, rfl, hfz, hnd⟩ := hW
  have hA : DataW.TrodAll enc Try.prog W 0 (fun _ => true) true Try.f4.params.toList args.toList ds p := hA0
  rw [Try.params4] at hA hval
  obtain ⟨v0, vs0, d0, ds0, p0, q0, hargs, rfl, rfl, h0, r0⟩ := trodAll_cons hA
  obtain ⟨v1, vs1, d1, ds1, p1, q1, rfl, rfl, rfl, h1, r1⟩ := trodAll_cons r0
  obtain ⟨rfl, rfl, rfl⟩ := trodAll_nil r1
  obtain rfl : args = #[v0, v1] := by cases args; simp_all
  obtain ⟨rfl, rfl⟩ := trodVars_none hV
  obtain ⟨a0, len0, cap0, rfl⟩ := okWide_slice Try.underlying22 (hval 0 22 v0 rfl rfl)
  have k0 := h0
  have lt0 : ∀ x ∈ p0, x.block < W.heap.size := by obtain ⟨m, hm⟩ := k0; exact DataW.trod_lt m _ _ _ hm
  obtain ⟨l0, w0⟩ : ∃ l, len0 ≤ cap0 ∧ cap0 ≤ maxLen ∧ (a0 = none → cap0 = 0) ∧ RowOf (liePair (lieInt .i64) (liePair (lieStr) (liePair (lieInt .i64) (liePair (lieStr) (liePair (lieInt .i64) (lieInt .i64)))))) W W.heap.size a0 len0 l := by
    obtain ⟨fuel, hf⟩ := h0
    obtain ⟨d, A', n', c', e, h⟩ := op22.2 enc W _ _ fuel _ _ hf
    simp [Value.cells] at e
    obtain ⟨rfl, rfl, rfl⟩ := e
    exact ⟨d, h⟩
  obtain ⟨a1, len1, cap1, rfl⟩ := okWide_slice Try.underlying30 (hval 1 30 v1 rfl rfl)
  have k1 := h1
  have lt1 : ∀ x ∈ p1, x.block < W.heap.size := by obtain ⟨m, hm⟩ := k1; exact DataW.trod_lt m _ _ _ hm
  obtain ⟨l1, w1⟩ : ∃ l, len1 ≤ cap1 ∧ cap1 ≤ maxLen ∧ (a1 = none → cap1 = 0) ∧ RowOf (lieInt .u8) W W.heap.size a1 len1 l := by
    obtain ⟨fuel, hf⟩ := h1
    obtain ⟨d, A', n', c', e, h⟩ := op30.2 enc W _ _ fuel _ _ hf
    simp [Value.cells] at e
    obtain ⟨rfl, rfl, rfl⟩ := e
    exact ⟨d, h⟩
  clear hA0 hval0
  refine (walk a0 len0 cap0 l0 a1 len1 cap1 l1 W w0 w1).mono fun e W' ⟨he, bel⟩ => ?_
  subst he
  exact ⟨_, rfl, _, _, _, [], _, [], hW', trodAll_mk1 (shut_bool Try.underlying4 _), (trodAll_cons_mk (Below.trod laidOut (by kernel_rfl) (of_decide_eq_true (by kernel_rfl)) k0 bel lt0) (trodAll_cons_mk (Below.trod laidOut (by kernel_rfl) (of_decide_eq_true (by kernel_rfl)) k1 bel lt1) trodAll_mk0)), rfl, bel.frame _, fun h => by cases h⟩

theorem over : Rows.proofBytesRow.holds Try.pinned (OpenSpec.ofChange Rows.proofBytesSpec) :=
  OpenClaim.holds_of_wide 4 Try.f4 rfl rfl rfl rfl rfl rfl rfl ⟨rfl, rfl, rfl, rfl, rfl⟩ rfl rfl rfl rfl rfl (by kernel_rfl) Try.func4 (by kernel_rfl)
    (of_decide_eq_true (by kernel_rfl)) (by unfold Func.isWrapper; first | (rw [if_pos (by decide +kernel)]; kernel_rfl) | (rw [if_neg (by decide +kernel)]; exact ⟨rfl, rfl⟩))
    (fun os started H enc _ => lifted os started H enc)

theorem proved : Rows.ProofBytesSaid := over
#print axioms proved
end Go.Proofs.Ytdggnakjfcmnmaa.proofBytes
