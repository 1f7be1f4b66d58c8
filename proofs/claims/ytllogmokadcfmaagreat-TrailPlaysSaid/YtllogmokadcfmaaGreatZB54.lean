/-
  Some texts of this claim, one behind the other: TrailPlaysProof. What each proves, and its condition, stands at its head.
-/
import Derived.Test.YtllogmokadcfmaaGreatRows
import Derived.Test.YtllogmokadcfmaaGreatZB2
import Derived.Test.YtllogmokadcfmaaGreatZB41
import Derived.Test.YtllogmokadcfmaaGreatZB53
import Derived.WalkKit
import Derived.ProofKit
import Derived.OpenShut
import Derived.ShutString
import Derived.ChangeOld
import Derived.Below
/-
  The law TrailPlays holds: for every input its call returns true and its arguments read afterwards as they did. No condition beyond the given row's own.
-/
namespace Go.Proofs.YtllogmokadcfmaaGreat.trailPlays
open Go.ChangeShapes Go.WideShapes Go.ChangeAt Go.RowKit
open Go.ChangeMaps (open_string shut_string)
set_option linter.unusedVariables false
theorem own : ownKnob Tryz.prog.godebug = none := by kernel_rfl
theorem laidOut : laidOutB Tryz.prog = true := by kernel_rfl
theorem walk (a0 : Option Addr) (len0 cap0 : Nat) (l0 : List ((Int) × (Int) × (Int) × ((ByteArray) × (List ((Int) × (Int))) × (Bool)))) (a1 : Option Addr) (len1 cap1 : Nat) (l1 : List ((ByteArray) × (List ((Int) × (Int))) × (Bool))) (c2 : List Value) (l2 : (Int) × (ByteArray)) (w : World) (w0 : len0 ≤ cap0 ∧ cap0 ≤ maxLen ∧ (a0 = none → cap0 = 0) ∧ RowOf (liePair (lieInt .i64) (liePair (lieInt .i64) (liePair (lieInt .i64) (liePair (lieStr) (liePair (lieSlice (liePair (lieInt .i64) (lieInt .i64))) (lieBool)))))) w w.heap.size a0 len0 l0) (w1 : len1 ≤ cap1 ∧ cap1 ≤ maxLen ∧ (a1 = none → cap1 = 0) ∧ RowOf (liePair (lieStr) (liePair (lieSlice (liePair (lieInt .i64) (lieInt .i64))) (lieBool))) w w.heap.size a1 len1 l1) (w2 : (liePair (lieInt .i64) (lieStr)).holds w w.heap.size c2 l2) :
    Calls Tryz.prog 3 #[.slice a0 len0 cap0, .slice a1 len1 cap1, .agg c2.toArray] w fun e w' => e = .returned (.bool true) ∧ Below w.heap.size w w' := by
  unfold maxLen at *
  obtain ⟨k0, k1, _, hr0⟩ := w0
  obtain ⟨j0, j1, _, hr1⟩ := w1
  obtain ⟨x1, x2, rfl, ⟨rfl, hwf⟩, ⟨rfl, hs⟩⟩ := w2
  exact Trail.tplays_walk Trail.progP Trail.nilT (l0.map Trail.toDo) (l1.map Clash.toT) l2.1 l2.2 a0 a1 len0 cap0 len1 cap1 w (Trail.doOn_of hr0).1 (Clash.tmOn_of hr1).1 (by omega) (by omega) (fun d hd => by have := (Trail.doOn_of hr0).2 d hd; unfold maxLen at this; omega) (fun t ht => by have := (Clash.tmOn_of hr1).2 t ht; unfold maxLen at this; omega) hs
set_option maxRecDepth 100000 in
theorem op3 : Opens Tryz.prog 3 (lieInt .i64) := opens_int Tryz.underlying3 (by kernel_rfl)
set_option maxRecDepth 100000 in
theorem op9 : Opens Tryz.prog 9 (lieStr) := opens_str Tryz.underlying9 (by kernel_rfl)
set_option maxRecDepth 100000 in
theorem op56 : Opens Tryz.prog 56 (liePair (lieInt .i64) (lieInt .i64)) := opens_struct Tryz.underlying56 (by kernel_rfl) (opensF_cons rfl op3 (opensF_one rfl op3))
set_option maxRecDepth 100000 in
theorem op36 : Opens Tryz.prog 36 (lieSlice (liePair (lieInt .i64) (lieInt .i64))) := opens_slice Tryz.underlying36 (by kernel_rfl) op56 (by decide)
set_option maxRecDepth 100000 in
theorem op4 : Opens Tryz.prog 4 (lieBool) := opens_bool Tryz.underlying4 (by kernel_rfl)
set_option maxRecDepth 100000 in
theorem op38 : Opens Tryz.prog 38 (liePair (lieStr) (liePair (lieSlice (liePair (lieInt .i64) (lieInt .i64))) (lieBool))) := opens_struct Tryz.underlying38 (by kernel_rfl) (opensF_cons rfl op9 (opensF_cons rfl op36 (opensF_one rfl op4)))
set_option maxRecDepth 100000 in
theorem op40 : Opens Tryz.prog 40 (liePair (lieInt .i64) (liePair (lieInt .i64) (liePair (lieInt .i64) (liePair (lieStr) (liePair (lieSlice (liePair (lieInt .i64) (lieInt .i64))) (lieBool)))))) := opens_struct Tryz.underlying40 (by kernel_rfl) (opensF_cons rfl op3 (opensF_cons rfl op3 (opensF_cons rfl op3 (opensF_one rfl op38))))
set_option maxRecDepth 100000 in
theorem op22 : Opens Tryz.prog 22 (lieSlice (liePair (lieInt .i64) (liePair (lieInt .i64) (liePair (lieInt .i64) (liePair (lieStr) (liePair (lieSlice (liePair (lieInt .i64) (lieInt .i64))) (lieBool))))))) := opens_slice Tryz.underlying22 (by kernel_rfl) op40 (by decide)
set_option maxRecDepth 100000 in
theorem op23 : Opens Tryz.prog 23 (lieSlice (liePair (lieStr) (liePair (lieSlice (liePair (lieInt .i64) (lieInt .i64))) (lieBool)))) := opens_slice Tryz.underlying23 (by kernel_rfl) op38 (by decide)
set_option maxRecDepth 100000 in
theorem op25 : Opens Tryz.prog 25 (liePair (lieInt .i64) (lieStr)) := opens_struct Tryz.underlying25 (by kernel_rfl) (opensF_cons rfl op3 (opensF_one rfl op9))
set_option maxRecDepth 100000 in
theorem lifted (os : Os) (started : os.Started) (H : Type) (enc : TypeId × Value → H) :
    ReturnsInHanded {} Tryz.checked os 3 .any (Rows.trailPlaysSpec.pre6 enc Tryz.prog Tryz.f3 Rows.trailPlaysRow.domain false) (Rows.trailPlaysSpec.post enc Tryz.prog Tryz.f3 false true false false) := by
  refine returnsInHanded_of_change (C := Tryz.checked) own started (by kernel_rfl) Tryz.func3
    (ChangeSpec.witness6 (enc := enc) (C := Tryz.checked) false ⟨#[], #[.slice none 0 0, .slice none 0 0, .agg #[.int .i64 0, .string ByteArray.empty]], []⟩ 8 (by kernel_rfl) (by kernel_rfl) (by kernel_rfl) (by kernel_rfl)) ?_
  intro W base args ds gs before hval0 hW hcnd _
  have hval : ∀ (j : Nat) t v, Tryz.f3.params[j]? = some t → args[j]? = some v → Value.okWide Tryz.prog W .any base t v := hval0
  have hW' := hW
  obtain ⟨p, q, hA0, hV, rfl, hfz, hnd⟩ := hW
  have hA : DataW.TrodAll enc Tryz.prog W 0 (fun _ => true) true Tryz.f3.params.toList args.toList ds p := hA0
  rw [Tryz.params3] at hA hval
  obtain ⟨v0, vs0, d0, ds0, p0, q0, hargs, rfl, rfl, h0, r0⟩ := trodAll_cons hA
  obtain ⟨v1, vs1, d1, ds1, p1, q1, rfl, rfl, rfl, h1, r1⟩ := trodAll_cons r0
  obtain ⟨v2, vs2, d2, ds2, p2, q2, rfl, rfl, rfl, h2, r2⟩ := trodAll_cons r1
  obtain ⟨rfl, rfl, rfl⟩ := trodAll_nil r2
  obtain rfl : args = #[v0, v1, v2] := by cases args; simp_all
  obtain ⟨rfl, rfl⟩ := trodVars_none hV
  obtain ⟨a0, len0, cap0, rfl⟩ := okWide_slice Tryz.underlying22 (hval 0 22 v0 rfl rfl)
  have k0 := h0
  have lt0 : ∀ x ∈ p0, x.block < W.heap.size := by obtain ⟨m, hm⟩ := k0; exact DataW.trod_lt m _ _ _ hm
  obtain ⟨l0, w0⟩ : ∃ l, len0 ≤ cap0 ∧ cap0 ≤ maxLen ∧ (a0 = none → cap0 = 0) ∧ RowOf (liePair (lieInt .i64) (liePair (lieInt .i64) (liePair (lieInt .i64) (liePair (lieStr) (liePair (lieSlice (liePair (lieInt .i64) (lieInt .i64))) (lieBool)))))) W W.heap.size a0 len0 l := by
    obtain ⟨fuel, hf⟩ := h0
    obtain ⟨d, A', n', c', e, h⟩ := op22.2 enc W _ _ fuel _ _ hf
    simp [Value.cells] at e
    obtain ⟨rfl, rfl, rfl⟩ := e
    exact ⟨d, h⟩
  obtain ⟨a1, len1, cap1, rfl⟩ := okWide_slice Tryz.underlying23 (hval 1 23 v1 rfl rfl)
  have k1 := h1
  have lt1 : ∀ x ∈ p1, x.block < W.heap.size := by obtain ⟨m, hm⟩ := k1; exact DataW.trod_lt m _ _ _ hm
  obtain ⟨l1, w1⟩ : ∃ l, len1 ≤ cap1 ∧ cap1 ≤ maxLen ∧ (a1 = none → cap1 = 0) ∧ RowOf (liePair (lieStr) (liePair (lieSlice (liePair (lieInt .i64) (lieInt .i64))) (lieBool))) W W.heap.size a1 len1 l := by
    obtain ⟨fuel, hf⟩ := h1
    obtain ⟨d, A', n', c', e, h⟩ := op23.2 enc W _ _ fuel _ _ hf
    simp [Value.cells] at e
    obtain ⟨rfl, rfl, rfl⟩ := e
    exact ⟨d, h⟩
  obtain ⟨e2, rfl, hsz2⟩ := okWide_struct Tryz.underlying25 (hval 2 25 v2 rfl rfl)
  have k2 := h2
  have lt2 : ∀ x ∈ p2, x.block < W.heap.size := by obtain ⟨m, hm⟩ := k2; exact DataW.trod_lt m _ _ _ hm
  obtain ⟨c2, rfl⟩ : ∃ c : List Value, e2 = c.toArray := ⟨e2.toList, by simp⟩
  obtain ⟨l2, w2⟩ : ∃ l, (liePair (lieInt .i64) (lieStr)).holds W W.heap.size c2 l := by
    obtain ⟨fuel, hf⟩ := h2
    simpa [Value.cells] using op25.2 enc W _ _ fuel _ _ hf
  clear hA0 hval0
  refine (walk a0 len0 cap0 l0 a1 len1 cap1 l1 c2 l2 W w0 w1 w2).mono fun e W' ⟨he, bel⟩ => ?_
  subst he
  exact ⟨_, rfl, _, _, _, [], _, [], hW', trodAll_mk1 (shut_bool Tryz.underlying4 _), (trodAll_cons_mk (Below.trod laidOut (by kernel_rfl) (of_decide_eq_true (by kernel_rfl)) k0 bel lt0) (trodAll_cons_mk (Below.trod laidOut (by kernel_rfl) (of_decide_eq_true (by kernel_rfl)) k1 bel lt1) (trodAll_cons_mk (Below.trod laidOut (by kernel_rfl) (of_decide_eq_true (by kernel_rfl)) k2 bel lt2) trodAll_mk0))), rfl, bel.frame _, fun h => by cases h⟩
theorem over : Rows.trailPlaysRow.holds Tryz.pinned (OpenSpec.ofChange Rows.trailPlaysSpec) :=
  OpenClaim.holds_of_wide 3 Tryz.f3 rfl rfl rfl rfl rfl rfl rfl ⟨rfl, rfl, rfl, rfl, rfl⟩ rfl rfl rfl rfl rfl (by kernel_rfl) Tryz.func3 (by kernel_rfl)
    (of_decide_eq_true (by kernel_rfl)) (by unfold Func.isWrapper; first | (rw [if_pos (by decide +kernel)]; kernel_rfl) | (rw [if_neg (by decide +kernel)]; exact ⟨rfl, rfl⟩))
    (fun os started H enc _ => lifted os started H enc)
theorem proved : Rows.TrailPlaysSaid := over
#print axioms proved
end Go.Proofs.YtllogmokadcfmaaGreat.trailPlays
