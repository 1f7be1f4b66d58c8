/-
  Some texts of this claim, one behind the other: ClashSoundProof. What each proves, and its condition, stands at its head.
-/
import Derived.Test.YtckioihkknhfpaaGreatDoorRows
import Derived.Test.YtckioihkknhfpaaGreatDoorCards
import Derived.Test.YtckioihkknhfpaaGreatDoorTie
import Derived.LaidMore
import Derived.Lay
import Derived.SevenTiedAt
import Derived.Stop.Joined
import Derived.Lib.LaidIn
import Derived.Test.YtckioihkknhfpaaGreatDoorX2
import Derived.Test.YtckioihkknhfpaaGreatDoorX34
import Derived.Test.YtckioihkknhfpaaGreatDoorX45
import Derived.Test.YtckioihkknhfpaaGreatDoorX46
import Derived.WalkKit
import Derived.ProofKit
import Derived.OpenShut
import Derived.ShutString
import Derived.ChangeOld
import Derived.Below
/-
  The law ClashSound holds, its card tied to the program's text: for every input its call returns true and its arguments read afterwards as they did. Condition: the listed tables of the library hold what its text lays in them (the card's tie).
-/
namespace Go.Proofs.YtckioihkknhfpaaGreatDoor.clashSound
open Go.ChangeShapes Go.WideShapes Go.ChangeAt Go.RowKit
open Go.ChangeMaps (open_string shut_string)
set_option linter.unusedVariables false

theorem own : ownKnob Tryz.prog.godebug = none := by kernel_rfl
theorem laidOut : laidOutB Tryz.prog = true := by kernel_rfl

theorem walk (a0 : Option Addr) (len0 cap0 : Nat) (l0 : List ((ByteArray) × (List ((Int) × (Int))) × (Bool))) (a1 : Option Addr) (len1 cap1 : Nat) (l1 : List ((ByteArray) × (List ((Int) × (Int))) × (Bool))) (c2 : List Value) (l2 : (ByteArray) × (List ((ByteArray) × (Int)))) (w : World) (hT : Ver.Tabs w) (w0 : len0 ≤ cap0 ∧ cap0 ≤ maxLen ∧ (a0 = none → cap0 = 0) ∧ RowOf (liePair (lieStr) (liePair (lieSlice (liePair (lieInt .i64) (lieInt .i64))) (lieBool))) w w.heap.size a0 len0 l0) (w1 : len1 ≤ cap1 ∧ cap1 ≤ maxLen ∧ (a1 = none → cap1 = 0) ∧ RowOf (liePair (lieStr) (liePair (lieSlice (liePair (lieInt .i64) (lieInt .i64))) (lieBool))) w w.heap.size a1 len1 l1) (w2 : (liePair (lieStr) (lieSlice (liePair (lieStr) (lieInt .i64)))).holds w w.heap.size c2 l2) :
    Calls Tryz.prog 5 #[.slice a0 len0 cap0, .slice a1 len1 cap1, .agg c2.toArray] w fun e w' => e = .returned (.bool true) ∧ Below w.heap.size w w' := by
  obtain ⟨k0, k1, _, hr0⟩ := w0
  obtain ⟨j0, j1, _, hr1⟩ := w1
  obtain ⟨x1, x2, rfl, ⟨rfl, hs⟩, ⟨A3, n3, c3, rfl, m0, m1, _, hr3⟩⟩ := w2
  unfold maxLen at k1 j1 m1 hs
  exact Clash.sound_walk Clash.specJoinC Clash.specShowC Clash.specCheckC Clash.specMakeC Clash.specHoldsC (l0.map Clash.toT) (l1.map Clash.toT) l2.2 l2.1 a0 a1 A3 len0 cap0 len1 cap1 n3 c3 w (Clash.tmOn_of hr0).1 (Clash.tmOn_of hr1).1 (Pick.pkOn_of hr3).1 (by omega) (by omega) (by omega) (Clash.tmOn_of hr0).2 (Clash.tmOn_of hr1).2 hs hT

set_option maxRecDepth 100000 in
theorem op9 : Opens Tryz.prog 9 (lieStr) := opens_str Tryz.underlying9 (by kernel_rfl)
set_option maxRecDepth 100000 in
theorem op3 : Opens Tryz.prog 3 (lieInt .i64) := opens_int Tryz.underlying3 (by kernel_rfl)
set_option maxRecDepth 100000 in
theorem op45 : Opens Tryz.prog 45 (liePair (lieInt .i64) (lieInt .i64)) := opens_struct Tryz.underlying45 (by kernel_rfl) (opensF_cons rfl op3 (opensF_one rfl op3))
set_option maxRecDepth 100000 in
theorem op28 : Opens Tryz.prog 28 (lieSlice (liePair (lieInt .i64) (lieInt .i64))) := opens_slice Tryz.underlying28 (by kernel_rfl) op45 (by decide)
set_option maxRecDepth 100000 in
theorem op4 : Opens Tryz.prog 4 (lieBool) := opens_bool Tryz.underlying4 (by kernel_rfl)
set_option maxRecDepth 100000 in
theorem op30 : Opens Tryz.prog 30 (liePair (lieStr) (liePair (lieSlice (liePair (lieInt .i64) (lieInt .i64))) (lieBool))) := opens_struct Tryz.underlying30 (by kernel_rfl) (opensF_cons rfl op9 (opensF_cons rfl op28 (opensF_one rfl op4)))
set_option maxRecDepth 100000 in
theorem op22 : Opens Tryz.prog 22 (lieSlice (liePair (lieStr) (liePair (lieSlice (liePair (lieInt .i64) (lieInt .i64))) (lieBool)))) := opens_slice Tryz.underlying22 (by kernel_rfl) op30 (by decide)
set_option maxRecDepth 100000 in
theorem op60 : Opens Tryz.prog 60 (liePair (lieStr) (lieInt .i64)) := opens_struct Tryz.underlying60 (by kernel_rfl) (opensF_cons rfl op9 (opensF_one rfl op3))
set_option maxRecDepth 100000 in
theorem op34 : Opens Tryz.prog 34 (lieSlice (liePair (lieStr) (lieInt .i64))) := opens_slice Tryz.underlying34 (by kernel_rfl) op60 (by decide)
set_option maxRecDepth 100000 in
theorem op36 : Opens Tryz.prog 36 (liePair (lieStr) (lieSlice (liePair (lieStr) (lieInt .i64)))) := opens_struct Tryz.underlying36 (by kernel_rfl) (opensF_cons rfl op9 (opensF_one rfl op34))

set_option maxRecDepth 100000 in
theorem lifted (os : Os) (started : os.Started) (H : Type) (enc : TypeId × Value → H) :
    ReturnsInHanded {} Tryz.checked os 5 .any (fun w args => (Rows.clashSoundSpec.pre enc Tryz.prog Tryz.f5 Rows.clashSoundRow.domain false w args ∧ laidMetH Tryz.prog Rows.clashSoundRow.laid w) ∧ sizedMet enc Tryz.prog Tryz.f5 (OpenSpec.ofChange Rows.clashSoundSpec) false w args)
      (Rows.clashSoundSpec.post enc Tryz.prog Tryz.f5 false true false false) := by
  refine returnsInHanded_of_change_and (C := Tryz.checked) (X := fun w _ => laidMetH Tryz.prog Rows.clashSoundRow.laid w) (fun _ _ _ hh h => h.of_heap hh) own started (by kernel_rfl) Tryz.func5
    (ChangeSpec.witness_shaped (enc := enc) (C := Tryz.checked) (os := os) (X := fun w _ => laidMetH Tryz.prog Rows.clashSoundRow.laid w) false (World.laidAll Tryz.prog os Rows.clashSoundRow.laid) #[.slice none 0 0, .slice none 0 0, .agg #[.string ByteArray.empty, .slice none 0 0]] 8 (World.laidAll_os _ _ _)
      (World.shaped_of_ZipB (by kernel_rfl) (by kernel_rfl)) (by kernel_rfl) (by kernel_rfl) (by kernel_rfl)
      (by rw [MakeChecks.laidMetH_plain _ _ _ (by kernel_rfl)]; exact laidMet_laidAll _ (by kernel_rfl) (by kernel_rfl))) ?_
  intro W base args ds gs before hval0 hW hcnd _ hL _
  have hval : ∀ (j : Nat) t v, Tryz.f5.params[j]? = some t → args[j]? = some v → Value.okWide Tryz.prog W .any base t v := hval0
  have hW' := hW
  obtain ⟨p, q, hA0, hV, rfl, hfz, hnd⟩ := hW
  have hA : DataW.TrodAll enc Tryz.prog W 0 (fun _ => true) true Tryz.f5.params.toList args.toList ds p := hA0
  rw [Tryz.params5] at hA hval
  obtain ⟨v0, vs0, d0, ds0, p0, q0, hargs, rfl, rfl, h0, r0⟩ := trodAll_cons hA
  obtain ⟨v1, vs1, d1, ds1, p1, q1, rfl, rfl, rfl, h1, r1⟩ := trodAll_cons r0
  obtain ⟨v2, vs2, d2, ds2, p2, q2, rfl, rfl, rfl, h2, r2⟩ := trodAll_cons r1
  obtain ⟨rfl, rfl, rfl⟩ := trodAll_nil r2
  obtain rfl : args = #[v0, v1, v2] := by cases args; simp_all
  obtain ⟨rfl, rfl⟩ := trodVars_none hV
  obtain ⟨a0, len0, cap0, rfl⟩ := okWide_slice Tryz.underlying22 (hval 0 22 v0 rfl rfl)
  have k0 := h0
  have lt0 : ∀ x ∈ p0, x.block < W.heap.size := by obtain ⟨m, hm⟩ := k0; exact DataW.trod_lt m _ _ _ hm
  obtain ⟨l0, w0⟩ : ∃ l, len0 ≤ cap0 ∧ cap0 ≤ maxLen ∧ (a0 = none → cap0 = 0) ∧ RowOf (liePair (lieStr) (liePair (lieSlice (liePair (lieInt .i64) (lieInt .i64))) (lieBool))) W W.heap.size a0 len0 l := by
    obtain ⟨fuel, hf⟩ := h0
    obtain ⟨d, A', n', c', e, h⟩ := op22.2 enc W _ _ fuel _ _ hf
    simp [Value.cells] at e
    obtain ⟨rfl, rfl, rfl⟩ := e
    exact ⟨d, h⟩
  obtain ⟨a1, len1, cap1, rfl⟩ := okWide_slice Tryz.underlying22 (hval 1 22 v1 rfl rfl)
  have k1 := h1
  have lt1 : ∀ x ∈ p1, x.block < W.heap.size := by obtain ⟨m, hm⟩ := k1; exact DataW.trod_lt m _ _ _ hm
  obtain ⟨l1, w1⟩ : ∃ l, len1 ≤ cap1 ∧ cap1 ≤ maxLen ∧ (a1 = none → cap1 = 0) ∧ RowOf (liePair (lieStr) (liePair (lieSlice (liePair (lieInt .i64) (lieInt .i64))) (lieBool))) W W.heap.size a1 len1 l := by
    obtain ⟨fuel, hf⟩ := h1
    obtain ⟨d, A', n', c', e, h⟩ := op22.2 enc W _ _ fuel _ _ hf
    simp [Value.cells] at e
    obtain ⟨rfl, rfl, rfl⟩ := e
    exact ⟨d, h⟩
  obtain ⟨e2, rfl, hsz2⟩ := okWide_struct Tryz.underlying36 (hval 2 36 v2 rfl rfl)
  have k2 := h2
  have lt2 : ∀ x ∈ p2, x.block < W.heap.size := by obtain ⟨m, hm⟩ := k2; exact DataW.trod_lt m _ _ _ hm
  obtain ⟨c2, rfl⟩ : ∃ c : List Value, e2 = c.toArray := ⟨e2.toList, by simp⟩
  obtain ⟨l2, w2⟩ : ∃ l, (liePair (lieStr) (lieSlice (liePair (lieStr) (lieInt .i64)))).holds W W.heap.size c2 l := by
    obtain ⟨fuel, hf⟩ := h2
    simpa [Value.cells] using op36.2 enc W _ _ fuel _ _ hf
  clear hA0 hval0
  rw [MakeChecks.laidMetH_plain _ _ _ (by kernel_rfl)] at hL
  refine (walk a0 len0 cap0 l0 a1 len1 cap1 l1 c2 l2 W (Term.tabs_of_laid hL) w0 w1 w2).mono fun e W' ⟨he, bel⟩ => ?_
  subst he
  exact ⟨_, rfl, _, _, _, [], _, [], hW', trodAll_mk1 (shut_bool Tryz.underlying4 _), (trodAll_cons_mk (Below.trod laidOut (by kernel_rfl) (of_decide_eq_true (by kernel_rfl)) k0 bel lt0) (trodAll_cons_mk (Below.trod laidOut (by kernel_rfl) (of_decide_eq_true (by kernel_rfl)) k1 bel lt1) (trodAll_cons_mk (Below.trod laidOut (by kernel_rfl) (of_decide_eq_true (by kernel_rfl)) k2 bel lt2) trodAll_mk0))), rfl, bel.frame _, fun h => by cases h⟩

theorem over : Rows.clashSoundRow.holds Tryz.pinned (OpenSpec.ofChange Rows.clashSoundSpec) :=
  OpenClaim.holds_of_wide 5 Tryz.f5 rfl rfl rfl rfl rfl rfl rfl ⟨rfl, rfl, rfl, rfl, rfl⟩ rfl rfl rfl rfl rfl (by kernel_rfl) Tryz.func5 (by kernel_rfl)
    (of_decide_eq_true (by kernel_rfl)) (by unfold Func.isWrapper; first | (rw [if_pos (by decide +kernel)]; kernel_rfl) | (rw [if_neg (by decide +kernel)]; exact ⟨rfl, rfl⟩))
    (fun os started H enc _ => lifted os started H enc)

theorem proved : Rows.ClashSoundCardSaid :=
  Claim7.holds_tied_plain_at .later [] [.data, .data, .data, .data] true (true, "f205a298fb097ea217963ee55c7d337b16415d31fae82996a8831a01bbb08775") false over (fun _ h => by cases h) (by kernel_rfl) (fun _ h => by cases h) clashSound_row_tie rfl ⟨rfl, rfl⟩ (by kernel_rfl) rfl
    (fun f fn hf hfn => by
      obtain rfl : f = 5 := Option.some.inj ((show Tryz.prog.funcNamed "comprador/compradorlaw19.ClashSound" = some 5 by kernel_rfl).symm.trans hf) |>.symm
      obtain rfl : fn = Tryz.f5 := (Option.some.inj (Tryz.func5.symm.trans hfn)).symm
      exact ⟨by kernel_rfl, fun j t ht => by
        rw [Tryz.params5] at ht
        have hm : t ∈ [22, 22, 36] := by simpa using Array.mem_of_getElem? ht
        have hall : ([22, 22, 36].all fun u => !Tryz.prog.wantsStandIn u) = true := by kernel_rfl
        exact (show Tryz.prog.wantsStandIn t = false by simpa using List.all_eq_true.1 hall t hm)⟩)
    (by kernel_rfl)
#print axioms proved
end Go.Proofs.YtckioihkknhfpaaGreatDoor.clashSound
