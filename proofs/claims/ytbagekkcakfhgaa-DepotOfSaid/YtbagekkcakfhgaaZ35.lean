/-
  Some texts of this claim, one behind the other: DepotOfProof. What each proves, and its condition, stands at its head.
-/
import Derived.Test.YtbagekkcakfhgaaRows
import Derived.Test.YtbagekkcakfhgaaZ2
import Derived.Test.YtbagekkcakfhgaaZ34
import Derived.WalkKit
import Derived.ProofKit
import Derived.OpenShut
import Derived.ShutString
import Derived.ChangeOld
import Derived.Below
/-
  The law DepotOf holds: for every input its call returns true and its arguments read afterwards as they did. No condition beyond the given row's own.
-/
namespace Go.Proofs.Ytbagekkcakfhgaa.depotOf
open Go.ChangeShapes Go.WideShapes Go.ChangeAt Go.RowKit
open Go.ChangeMaps (open_string shut_string)
set_option linter.unusedVariables false

theorem own : ownKnob Try.prog.godebug = none := by kernel_rfl
theorem laidOut : laidOutB Try.prog = true := by kernel_rfl

theorem walk (a0 : Option Addr) (len0 cap0 : Nat) (l0 : List ((ByteArray) × (List ((Int) × (List ((ByteArray) × (List ((Int) × (Int))))))))) (a1 : ByteArray) (w : World) (w0 : len0 ≤ cap0 ∧ cap0 ≤ maxLen ∧ (a0 = none → cap0 = 0) ∧ RowOf (liePair (lieStr) (lieSlice (liePair (lieInt .i64) (lieSlice (liePair (lieStr) (lieSlice (liePair (lieInt .i64) (lieInt .i64)))))))) w w.heap.size a0 len0 l0) (w1 : a1.size ≤ maxLen) :
    Calls Try.prog 4 #[.slice a0 len0 cap0, .string a1] w fun e w' => e = .returned (.bool true) ∧ Below w.heap.size w w' := by
  obtain ⟨_, _, _, hr0⟩ := w0
  have he := Depot.mnOn_of hr0
  exact Depot.of_walk l0 a0 len0 cap0 a1 w he.1 (fun m hm => he.2 m hm)

set_option maxRecDepth 100000 in
theorem op9 : Opens Try.prog 9 (lieStr) := opens_str Try.underlying9 (by kernel_rfl)
set_option maxRecDepth 100000 in
theorem op3 : Opens Try.prog 3 (lieInt .i64) := opens_int Try.underlying3 (by kernel_rfl)
set_option maxRecDepth 100000 in
theorem op88 : Opens Try.prog 88 (liePair (lieInt .i64) (lieInt .i64)) := opens_struct Try.underlying88 (by kernel_rfl) (opensF_cons rfl op3 (opensF_one rfl op3))
set_option maxRecDepth 100000 in
theorem op80 : Opens Try.prog 80 (lieSlice (liePair (lieInt .i64) (lieInt .i64))) := opens_slice Try.underlying80 (by kernel_rfl) op88 (by decide)
set_option maxRecDepth 100000 in
theorem op82 : Opens Try.prog 82 (liePair (lieStr) (lieSlice (liePair (lieInt .i64) (lieInt .i64)))) := opens_struct Try.underlying82 (by kernel_rfl) (opensF_cons rfl op9 (opensF_one rfl op80))
set_option maxRecDepth 100000 in
theorem op60 : Opens Try.prog 60 (lieSlice (liePair (lieStr) (lieSlice (liePair (lieInt .i64) (lieInt .i64))))) := opens_slice Try.underlying60 (by kernel_rfl) op82 (by decide)
set_option maxRecDepth 100000 in
theorem op62 : Opens Try.prog 62 (liePair (lieInt .i64) (lieSlice (liePair (lieStr) (lieSlice (liePair (lieInt .i64) (lieInt .i64)))))) := opens_struct Try.underlying62 (by kernel_rfl) (opensF_cons rfl op3 (opensF_one rfl op60))
set_option maxRecDepth 100000 in
theorem op26 : Opens Try.prog 26 (lieSlice (liePair (lieInt .i64) (lieSlice (liePair (lieStr) (lieSlice (liePair (lieInt .i64) (lieInt .i64))))))) := opens_slice Try.underlying26 (by kernel_rfl) op62 (by decide)
set_option maxRecDepth 100000 in
theorem op28 : Opens Try.prog 28 (liePair (lieStr) (lieSlice (liePair (lieInt .i64) (lieSlice (liePair (lieStr) (lieSlice (liePair (lieInt .i64) (lieInt .i64)))))))) := opens_struct Try.underlying28 (by kernel_rfl) (opensF_cons rfl op9 (opensF_one rfl op26))
set_option maxRecDepth 100000 in
theorem op39 : Opens Try.prog 39 (lieSlice (liePair (lieStr) (lieSlice (liePair (lieInt .i64) (lieSlice (liePair (lieStr) (lieSlice (liePair (lieInt .i64) (lieInt .i64))))))))) := opens_slice Try.underlying39 (by kernel_rfl) op28 (by decide)

set_option maxRecDepth 100000 in
theorem lifted (os : Os) (started : os.Started) (H : Type) (enc : TypeId × Value → H) :
    ReturnsInHanded {} Try.checked os 4 .any (Rows.depotOfSpec.pre6 enc Try.prog Try.f4 Rows.depotOfRow.domain false) (Rows.depotOfSpec.post enc Try.prog Try.f4 false true false false) := by
  refine returnsInHanded_of_change (C := Try.checked) own started (by kernel_rfl) Try.func4
    (ChangeSpec.witness6 (enc := enc) (C := Try.checked) false ⟨#[], #[.slice none 0 0, .string ByteArray.empty], []⟩ 8 (by kernel_rfl) (by kernel_rfl) (by kernel_rfl) (by kernel_rfl)) ?_
  intro W base args ds gs before hval0 hW hcnd _
  have hval : ∀ (j : Nat) t v, Try.f4.params[j]? = some t → args[j]? = some v → Value.okWide Try.prog W .any base t v := hval0
  have hW' := hW
  obtain ⟨p, q, hA0, hV, rfl, hfz, hnd⟩ := hW
  have hA : DataW.TrodAll enc Try.prog W 0 (fun _ => true) true Try.f4.params.toList args.toList ds p := hA0
  rw [Try.params4] at hA hval
  obtain ⟨v0, vs0, d0, ds0, p0, q0, hargs, rfl, rfl, h0, r0⟩ := trodAll_cons hA
  obtain ⟨v1, vs1, d1, ds1, p1, q1, rfl, rfl, rfl, h1, r1⟩ := trodAll_cons r0
  obtain ⟨rfl, rfl, rfl⟩ := trodAll_nil r1
  obtain rfl : args = #[v0, v1] := by cases args; simp_all
  obtain ⟨rfl, rfl⟩ := trodVars_none hV
  obtain ⟨a0, len0, cap0, rfl⟩ := okWide_slice Try.underlying39 (hval 0 39 v0 rfl rfl)
  have k0 := h0
  have lt0 : ∀ x ∈ p0, x.block < W.heap.size := by obtain ⟨m, hm⟩ := k0; exact DataW.trod_lt m _ _ _ hm
  obtain ⟨l0, w0⟩ : ∃ l, len0 ≤ cap0 ∧ cap0 ≤ maxLen ∧ (a0 = none → cap0 = 0) ∧ RowOf (liePair (lieStr) (lieSlice (liePair (lieInt .i64) (lieSlice (liePair (lieStr) (lieSlice (liePair (lieInt .i64) (lieInt .i64)))))))) W W.heap.size a0 len0 l := by
    obtain ⟨fuel, hf⟩ := h0
    obtain ⟨d, A', n', c', e, h⟩ := op39.2 enc W _ _ fuel _ _ hf
    simp [Value.cells] at e
    obtain ⟨rfl, rfl, rfl⟩ := e
    exact ⟨d, h⟩
  obtain ⟨a1, rfl, rfl, rfl, w1⟩ := open_string Try.underlying9 (hval 1 9 v1 rfl rfl) h1
  clear hA0 hval0
  refine (walk a0 len0 cap0 l0 a1 W w0 w1).mono fun e W' ⟨he, bel⟩ => ?_
  subst he
  exact ⟨_, rfl, _, _, _, [], _, [], hW', trodAll_mk1 (shut_bool Try.underlying4 _), (trodAll_cons_mk (Below.trod laidOut (by kernel_rfl) (of_decide_eq_true (by kernel_rfl)) k0 bel lt0) (trodAll_cons_mk (shut_string Try.underlying9 w1) trodAll_mk0)), rfl, bel.frame _, fun h => by cases h⟩

theorem over : Rows.depotOfRow.holds Try.pinned (OpenSpec.ofChange Rows.depotOfSpec) :=
  OpenClaim.holds_of_wide 4 Try.f4 rfl rfl rfl rfl rfl rfl rfl ⟨rfl, rfl, rfl, rfl, rfl⟩ rfl rfl rfl rfl rfl (by kernel_rfl) Try.func4 (by kernel_rfl)
    (of_decide_eq_true (by kernel_rfl)) (by unfold Func.isWrapper; first | (rw [if_pos (by decide +kernel)]; kernel_rfl) | (rw [if_neg (by decide +kernel)]; exact ⟨rfl, rfl⟩))
    (fun os started H enc _ => lifted os started H enc)

theorem proved : Rows.DepotOfSaid := over
#print axioms proved
end Go.Proofs.Ytbagekkcakfhgaa.depotOf
