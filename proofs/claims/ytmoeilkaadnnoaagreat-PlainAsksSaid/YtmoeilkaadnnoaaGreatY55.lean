/-
  Some texts of this claim, one behind the other: PlainAsksProof. What each proves, and its condition, stands at its head.
-/
import Derived.Test.YtmoeilkaadnnoaaGreatRows
import Derived.Test.YtmoeilkaadnnoaaGreatY13
import Derived.Test.YtmoeilkaadnnoaaGreatY51
import Derived.Test.YtmoeilkaadnnoaaGreatY53
import Derived.Test.YtmoeilkaadnnoaaGreatY50
import Derived.Test.YtmoeilkaadnnoaaGreatY54
import Derived.WalkKit
import Derived.ProofKit
import Derived.OpenShut
import Derived.ShutString
import Derived.ChangeOld
import Derived.Below
/-
  The law PlainAsks holds: for every input its call returns true and its arguments read afterwards as they did. No condition beyond the given row's own.
-/
namespace Go.Proofs.YtmoeilkaadnnoaaGreat.plainAsks
open Go.ChangeShapes Go.WideShapes Go.ChangeAt Go.RowKit
open Go.ChangeMaps (open_string shut_string)
set_option linter.unusedVariables false

theorem own : ownKnob Tryz.prog.godebug = none := by kernel_rfl
theorem laidOut : laidOutB Tryz.prog = true := by kernel_rfl

theorem walk (a0 : Option Addr) (len0 cap0 : Nat) (l0 : List ((ByteArray) × (List (Int)))) (c1 : List Value) (l1 : (List ((ByteArray) × (List ((Int) × (Int))))) × (List ((ByteArray) × (Int)))) (a2 : ByteArray) (w : World) (w0 : len0 ≤ cap0 ∧ cap0 ≤ maxLen ∧ (a0 = none → cap0 = 0) ∧ RowOf (liePair (lieStr) (lieSlice (lieInt .u8))) w w.heap.size a0 len0 l0) (w1 : (liePair (lieSlice (liePair (lieStr) (lieSlice (liePair (lieInt .i64) (lieInt .i64))))) (lieSlice (liePair (lieStr) (lieInt .i64)))).holds w w.heap.size c1 l1) (w2 : a2.size ≤ maxLen) :
    Calls Tryz.prog 4 #[.slice a0 len0 cap0, .agg c1.toArray, .string a2] w fun e w' => e = .returned (.bool true) ∧ Below w.heap.size w w' := by
  unfold maxLen at *
  obtain ⟨k0, k1, _, hr0⟩ := w0
  obtain ⟨x1, x2, rfl, ⟨A1, n1, c1, rfl, m0, m1, _, hr2⟩, ⟨A2, n2, c2', rfl, o0, o1, _, hr3⟩⟩ := w1
  unfold maxLen at m1 o1
  exact Plain.pasks_walk (Depot.toE l0) l1.1 l1.2 a2 a0 A1 A2 len0 cap0 n1 c1 n2 c2' w Plain.specSolve Plain.specAsked Plain.specNext (Depot.enOn_of hr0).1 (Need.ndOn_of hr2).1 (Pick.pkOn_of hr3).1 (by omega) (by omega) (by omega) (by omega) o0

set_option maxRecDepth 100000 in
theorem op9 : Opens Tryz.prog 9 (lieStr) := opens_str Tryz.underlying9 (by kernel_rfl)
set_option maxRecDepth 100000 in
theorem op5 : Opens Tryz.prog 5 (lieInt .u8) := opens_int Tryz.underlying5 (by kernel_rfl)
set_option maxRecDepth 100000 in
theorem op50 : Opens Tryz.prog 50 (lieSlice (lieInt .u8)) := opens_slice Tryz.underlying50 (by kernel_rfl) op5 (by decide)
set_option maxRecDepth 100000 in
theorem op52 : Opens Tryz.prog 52 (liePair (lieStr) (lieSlice (lieInt .u8))) := opens_struct Tryz.underlying52 (by kernel_rfl) (opensF_cons rfl op9 (opensF_one rfl op50))
set_option maxRecDepth 100000 in
theorem op22 : Opens Tryz.prog 22 (lieSlice (liePair (lieStr) (lieSlice (lieInt .u8)))) := opens_slice Tryz.underlying22 (by kernel_rfl) op52 (by decide)
set_option maxRecDepth 100000 in
theorem op3 : Opens Tryz.prog 3 (lieInt .i64) := opens_int Tryz.underlying3 (by kernel_rfl)
set_option maxRecDepth 100000 in
theorem op61 : Opens Tryz.prog 61 (liePair (lieInt .i64) (lieInt .i64)) := opens_struct Tryz.underlying61 (by kernel_rfl) (opensF_cons rfl op3 (opensF_one rfl op3))
set_option maxRecDepth 100000 in
theorem op46 : Opens Tryz.prog 46 (lieSlice (liePair (lieInt .i64) (lieInt .i64))) := opens_slice Tryz.underlying46 (by kernel_rfl) op61 (by decide)
set_option maxRecDepth 100000 in
theorem op54 : Opens Tryz.prog 54 (liePair (lieStr) (lieSlice (liePair (lieInt .i64) (lieInt .i64)))) := opens_struct Tryz.underlying54 (by kernel_rfl) (opensF_cons rfl op9 (opensF_one rfl op46))
set_option maxRecDepth 100000 in
theorem op23 : Opens Tryz.prog 23 (lieSlice (liePair (lieStr) (lieSlice (liePair (lieInt .i64) (lieInt .i64))))) := opens_slice Tryz.underlying23 (by kernel_rfl) op54 (by decide)
set_option maxRecDepth 100000 in
theorem op63 : Opens Tryz.prog 63 (liePair (lieStr) (lieInt .i64)) := opens_struct Tryz.underlying63 (by kernel_rfl) (opensF_cons rfl op9 (opensF_one rfl op3))
set_option maxRecDepth 100000 in
theorem op27 : Opens Tryz.prog 27 (lieSlice (liePair (lieStr) (lieInt .i64))) := opens_slice Tryz.underlying27 (by kernel_rfl) op63 (by decide)
set_option maxRecDepth 100000 in
theorem op40 : Opens Tryz.prog 40 (liePair (lieSlice (liePair (lieStr) (lieSlice (liePair (lieInt .i64) (lieInt .i64))))) (lieSlice (liePair (lieStr) (lieInt .i64)))) := opens_struct Tryz.underlying40 (by kernel_rfl) (opensF_cons rfl op23 (opensF_one rfl op27))

set_option maxRecDepth 100000 in
theorem lifted (os : Os) (started : os.Started) (H : Type) (enc : TypeId × Value → H) :
    ReturnsInHanded {} Tryz.checked os 4 .any (Rows.plainAsksSpec.pre6 enc Tryz.prog Tryz.f4 Rows.plainAsksRow.domain false) (Rows.plainAsksSpec.post enc Tryz.prog Tryz.f4 false true false false) := by
  refine returnsInHanded_of_change (C := Tryz.checked) own started (by kernel_rfl) Tryz.func4
    (ChangeSpec.witness6 (enc := enc) (C := Tryz.checked) false ⟨#[], #[.slice none 0 0, .agg #[.slice none 0 0, .slice none 0 0], .string ByteArray.empty], []⟩ 8 (by kernel_rfl) (by kernel_rfl) (by kernel_rfl) (by kernel_rfl)) ?_
  intro W base args ds gs before hval0 hW hcnd _
  have hval : ∀ (j : Nat) t v, Tryz.f4.params[j]? = some t → args[j]? = some v → Value.okWide Tryz.prog W .any base t v := hval0
  have hW' := hW
  obtain ⟨p, q, hA0, hV, rfl, hfz, hnd⟩ := hW
  have hA : DataW.TrodAll enc Tryz.prog W 0 (fun _ => true) true Tryz.f4.params.toList args.toList ds p := hA0
  rw [Tryz.params4] at hA hval
  obtain ⟨v0, vs0, d0, ds0, p0, q0, hargs, rfl, rfl, h0, r0⟩ := trodAll_cons hA
  obtain ⟨v1, vs1, d1, ds1, p1, q1, rfl, rfl, rfl, h1, r1⟩ := trodAll_cons r0
  obtain ⟨v2, vs2, d2, ds2, p2, q2, rfl, rfl, rfl, h2, r2⟩ := trodAll_cons r1
  obtain ⟨rfl, rfl, rfl⟩ := trodAll_nil r2
  obtain rfl : args = #[v0, v1, v2] := by cases args; simp_all
  obtain ⟨rfl, rfl⟩ := trodVars_none hV
  obtain ⟨a0, len0, cap0, rfl⟩ := okWide_slice Tryz.underlying22 (hval 0 22 v0 rfl rfl)
  have k0 := h0
  have lt0 : ∀ x ∈ p0, x.block < W.heap.size := by obtain ⟨m, hm⟩ := k0; exact DataW.trod_lt m _ _ _ hm
  obtain ⟨l0, w0⟩ : ∃ l, len0 ≤ cap0 ∧ cap0 ≤ maxLen ∧ (a0 = none → cap0 = 0) ∧ RowOf (liePair (lieStr) (lieSlice (lieInt .u8))) W W.heap.size a0 len0 l := by
    obtain ⟨fuel, hf⟩ := h0
    obtain ⟨d, A', n', c', e, h⟩ := op22.2 enc W _ _ fuel _ _ hf
    simp [Value.cells] at e
    obtain ⟨rfl, rfl, rfl⟩ := e
    exact ⟨d, h⟩
  obtain ⟨e1, rfl, hsz1⟩ := okWide_struct Tryz.underlying40 (hval 1 40 v1 rfl rfl)
  have k1 := h1
  have lt1 : ∀ x ∈ p1, x.block < W.heap.size := by obtain ⟨m, hm⟩ := k1; exact DataW.trod_lt m _ _ _ hm
  obtain ⟨c1, rfl⟩ : ∃ c : List Value, e1 = c.toArray := ⟨e1.toList, by simp⟩
  obtain ⟨l1, w1⟩ : ∃ l, (liePair (lieSlice (liePair (lieStr) (lieSlice (liePair (lieInt .i64) (lieInt .i64))))) (lieSlice (liePair (lieStr) (lieInt .i64)))).holds W W.heap.size c1 l := by
    obtain ⟨fuel, hf⟩ := h1
    simpa [Value.cells] using op40.2 enc W _ _ fuel _ _ hf
  obtain ⟨a2, rfl, rfl, rfl, w2⟩ := open_string Tryz.underlying9 (hval 2 9 v2 rfl rfl) h2
  clear hA0 hval0
  refine (walk a0 len0 cap0 l0 c1 l1 a2 W w0 w1 w2).mono fun e W' ⟨he, bel⟩ => ?_
  subst he
  exact ⟨_, rfl, _, _, _, [], _, [], hW', trodAll_mk1 (shut_bool Tryz.underlying4 _), (trodAll_cons_mk (Below.trod laidOut (by kernel_rfl) (of_decide_eq_true (by kernel_rfl)) k0 bel lt0) (trodAll_cons_mk (Below.trod laidOut (by kernel_rfl) (of_decide_eq_true (by kernel_rfl)) k1 bel lt1) (trodAll_cons_mk (shut_string Tryz.underlying9 w2) trodAll_mk0))), rfl, bel.frame _, fun h => by cases h⟩

theorem over : Rows.plainAsksRow.holds Tryz.pinned (OpenSpec.ofChange Rows.plainAsksSpec) :=
  OpenClaim.holds_of_wide 4 Tryz.f4 rfl rfl rfl rfl rfl rfl rfl ⟨rfl, rfl, rfl, rfl, rfl⟩ rfl rfl rfl rfl rfl (by kernel_rfl) Tryz.func4 (by kernel_rfl)
    (of_decide_eq_true (by kernel_rfl)) (by unfold Func.isWrapper; first | (rw [if_pos (by decide +kernel)]; kernel_rfl) | (rw [if_neg (by decide +kernel)]; exact ⟨rfl, rfl⟩))
    (fun os started H enc _ => lifted os started H enc)

theorem proved : Rows.PlainAsksSaid := over
#print axioms proved
end Go.Proofs.YtmoeilkaadnnoaaGreat.plainAsks
