/-
  Some texts of this claim, one behind the other: ManiTellsProof. What each proves, and its condition, stands at its head.
-/
import Derived.Test.YtajgjkjhaafnfaaRows
import Derived.Test.YtajgjkjhaafnfaaZ2
import Derived.Test.YtajgjkjhaafnfaaZ29
import Derived.WalkKit
import Derived.ProofKit
import Derived.OpenShut
import Derived.ShutString
import Derived.ChangeOld
import Derived.Below
/-
  The law ManiTells holds: for every input its call returns true and its arguments read afterwards as they did. No condition beyond the given row's own.
-/
namespace Go.Proofs.Ytajgjkjhaafnfaa.maniTells
open Go.ChangeShapes Go.WideShapes Go.ChangeAt Go.RowKit
open Go.ChangeMaps (open_string shut_string)
set_option linter.unusedVariables false

theorem own : ownKnob Try.prog.godebug = none := by kernel_rfl
theorem laidOut : laidOutB Try.prog = true := by kernel_rfl

theorem walk (c0 : List Value) (l0 : (ByteArray) × (List ((Int) × (List ((ByteArray) × (List ((Int) × (Int)))))))) (a1 : Int) (a2 : Option Addr) (len2 cap2 : Nat) (l2 : List ((Int) × (Int))) (w : World) (w0 : (liePair (lieStr) (lieSlice (liePair (lieInt .i64) (lieSlice (liePair (lieStr) (lieSlice (liePair (lieInt .i64) (lieInt .i64)))))))).holds w w.heap.size c0 l0) (w1 : (Lit.int .i64 a1).wf = true) (w2 : len2 ≤ cap2 ∧ cap2 ≤ maxLen ∧ (a2 = none → cap2 = 0) ∧ RowOf (liePair (lieInt .i64) (lieInt .i64)) w w.heap.size a2 len2 l2) :
    Calls Try.prog 4 #[.agg c0.toArray, .int .i64 a1, .slice a2 len2 cap2] w fun e w' => e = .returned (.bool true) ∧ Below w.heap.size w w' := by
  obtain ⟨A0, n0, k0, e0, h01, h02, h03, h04⟩ := Mani.open_mani w0
  obtain ⟨_, _, _, hr2⟩ := w2
  subst e0
  exact Mani.tells_walk l0.1 l0.2 a1 l2 A0 n0 k0 a2 len2 cap2 w h03 (Span.spOn_of hr2) h01 h02 h04

set_option maxRecDepth 100000 in
theorem op9 : Opens Try.prog 9 (lieStr) := opens_str Try.underlying9 (by kernel_rfl)
set_option maxRecDepth 100000 in
theorem op3 : Opens Try.prog 3 (lieInt .i64) := opens_int Try.underlying3 (by kernel_rfl)
set_option maxRecDepth 100000 in
theorem op55 : Opens Try.prog 55 (liePair (lieInt .i64) (lieInt .i64)) := opens_struct Try.underlying55 (by kernel_rfl) (opensF_cons rfl op3 (opensF_one rfl op3))
set_option maxRecDepth 100000 in
theorem op29 : Opens Try.prog 29 (lieSlice (liePair (lieInt .i64) (lieInt .i64))) := opens_slice Try.underlying29 (by kernel_rfl) op55 (by decide)
set_option maxRecDepth 100000 in
theorem op63 : Opens Try.prog 63 (liePair (lieStr) (lieSlice (liePair (lieInt .i64) (lieInt .i64)))) := opens_struct Try.underlying63 (by kernel_rfl) (opensF_cons rfl op9 (opensF_one rfl op29))
set_option maxRecDepth 100000 in
theorem op31 : Opens Try.prog 31 (lieSlice (liePair (lieStr) (lieSlice (liePair (lieInt .i64) (lieInt .i64))))) := opens_slice Try.underlying31 (by kernel_rfl) op63 (by decide)
set_option maxRecDepth 100000 in
theorem op33 : Opens Try.prog 33 (liePair (lieInt .i64) (lieSlice (liePair (lieStr) (lieSlice (liePair (lieInt .i64) (lieInt .i64)))))) := opens_struct Try.underlying33 (by kernel_rfl) (opensF_cons rfl op3 (opensF_one rfl op31))
set_option maxRecDepth 100000 in
theorem op22 : Opens Try.prog 22 (lieSlice (liePair (lieInt .i64) (lieSlice (liePair (lieStr) (lieSlice (liePair (lieInt .i64) (lieInt .i64))))))) := opens_slice Try.underlying22 (by kernel_rfl) op33 (by decide)
set_option maxRecDepth 100000 in
theorem op24 : Opens Try.prog 24 (liePair (lieStr) (lieSlice (liePair (lieInt .i64) (lieSlice (liePair (lieStr) (lieSlice (liePair (lieInt .i64) (lieInt .i64)))))))) := opens_struct Try.underlying24 (by kernel_rfl) (opensF_cons rfl op9 (opensF_one rfl op22))

set_option maxRecDepth 100000 in
theorem lifted (os : Os) (started : os.Started) (H : Type) (enc : TypeId × Value → H) :
    ReturnsInHanded {} Try.checked os 4 .any (Rows.maniTellsSpec.pre6 enc Try.prog Try.f4 Rows.maniTellsRow.domain false) (Rows.maniTellsSpec.post enc Try.prog Try.f4 false true false false) := by
  refine returnsInHanded_of_change (C := Try.checked) own started (by kernel_rfl) Try.func4
    (ChangeSpec.witness6 (enc := enc) (C := Try.checked) false ⟨#[], #[.agg #[.string ByteArray.empty, .slice none 0 0], .int .i64 0, .slice none 0 0], []⟩ 8 (by kernel_rfl) (by kernel_rfl) (by kernel_rfl) (by kernel_rfl)) ?_
  intro W base args ds gs before hval0 hW hcnd _
  have hval : ∀ (j : Nat) t v, Try.f4.params[j]? = some t → args[j]? = some v → Value.okWide Try.prog W .any base t v := hval0
  have hW' := hW
  obtain ⟨p, q, hA0, hV, rfl, hfz, hnd⟩ := hW
  have hA : DataW.TrodAll enc Try.prog W 0 (fun _ => true) true Try.f4.params.toList args.toList ds p := hA0
  rw [Try.params4] at hA hval
  obtain ⟨v0, vs0, d0, ds0, p0, q0, hargs, rfl, rfl, h0, r0⟩ := trodAll_cons hA
  obtain ⟨v1, vs1, d1, ds1, p1, q1, rfl, rfl, rfl, h1, r1⟩ := trodAll_cons r0
  obtain ⟨v2, vs2, d2, ds2, p2, q2, rfl, rfl, rfl, h2, r2⟩ := trodAll_cons r1
  obtain ⟨rfl, rfl, rfl⟩ := trodAll_nil r2
  obtain rfl : args = #[v0, v1, v2] := by cases args; simp_all
  obtain ⟨rfl, rfl⟩ := trodVars_none hV
  obtain ⟨e0, rfl, hsz0⟩ := okWide_struct Try.underlying24 (hval 0 24 v0 rfl rfl)
  have k0 := h0
  have lt0 : ∀ x ∈ p0, x.block < W.heap.size := by obtain ⟨m, hm⟩ := k0; exact DataW.trod_lt m _ _ _ hm
  obtain ⟨c0, rfl⟩ : ∃ c : List Value, e0 = c.toArray := ⟨e0.toList, by simp⟩
  obtain ⟨l0, w0⟩ : ∃ l, (liePair (lieStr) (lieSlice (liePair (lieInt .i64) (lieSlice (liePair (lieStr) (lieSlice (liePair (lieInt .i64) (lieInt .i64)))))))).holds W W.heap.size c0 l := by
    obtain ⟨fuel, hf⟩ := h0
    simpa [Value.cells] using op24.2 enc W _ _ fuel _ _ hf
  obtain ⟨a1, rfl, rfl, rfl, w1⟩ := open_int Try.underlying3 (hval 1 3 v1 rfl rfl) h1
  obtain ⟨a2, len2, cap2, rfl⟩ := okWide_slice Try.underlying29 (hval 2 29 v2 rfl rfl)
  have k2 := h2
  have lt2 : ∀ x ∈ p2, x.block < W.heap.size := by obtain ⟨m, hm⟩ := k2; exact DataW.trod_lt m _ _ _ hm
  obtain ⟨l2, w2⟩ : ∃ l, len2 ≤ cap2 ∧ cap2 ≤ maxLen ∧ (a2 = none → cap2 = 0) ∧ RowOf (liePair (lieInt .i64) (lieInt .i64)) W W.heap.size a2 len2 l := by
    obtain ⟨fuel, hf⟩ := h2
    obtain ⟨d, A', n', c', e, h⟩ := op29.2 enc W _ _ fuel _ _ hf
    simp [Value.cells] at e
    obtain ⟨rfl, rfl, rfl⟩ := e
    exact ⟨d, h⟩
  clear hA0 hval0
  refine (walk c0 l0 a1 a2 len2 cap2 l2 W w0 w1 w2).mono fun e W' ⟨he, bel⟩ => ?_
  subst he
  exact ⟨_, rfl, _, _, _, [], _, [], hW', trodAll_mk1 (shut_bool Try.underlying4 _), (trodAll_cons_mk (Below.trod laidOut (by kernel_rfl) (of_decide_eq_true (by kernel_rfl)) k0 bel lt0) (trodAll_cons_mk (shut_int Try.underlying3 w1) (trodAll_cons_mk (Below.trod laidOut (by kernel_rfl) (of_decide_eq_true (by kernel_rfl)) k2 bel lt2) trodAll_mk0))), rfl, bel.frame _, fun h => by cases h⟩

theorem over : Rows.maniTellsRow.holds Try.pinned (OpenSpec.ofChange Rows.maniTellsSpec) :=
  OpenClaim.holds_of_wide 4 Try.f4 rfl rfl rfl rfl rfl rfl rfl ⟨rfl, rfl, rfl, rfl, rfl⟩ rfl rfl rfl rfl rfl (by kernel_rfl) Try.func4 (by kernel_rfl)
    (of_decide_eq_true (by kernel_rfl)) (by unfold Func.isWrapper; first | (rw [if_pos (by decide +kernel)]; kernel_rfl) | (rw [if_neg (by decide +kernel)]; exact ⟨rfl, rfl⟩))
    (fun os started H enc _ => lifted os started H enc)

theorem proved : Rows.ManiTellsSaid := over
#print axioms proved
end Go.Proofs.Ytajgjkjhaafnfaa.maniTells
