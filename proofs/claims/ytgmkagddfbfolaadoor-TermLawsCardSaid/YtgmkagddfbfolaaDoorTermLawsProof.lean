/-
  The law TermLaws holds, its card tied to the program's text: for every input its call returns true and its arguments read afterwards as they did. Condition: the listed tables of the library hold what its text lays in them (the card's tie).
-/
import Derived.Test.YtgmkagddfbfolaaDoorRows
import Derived.Test.YtgmkagddfbfolaaDoorCards
import Derived.Test.YtgmkagddfbfolaaDoorTie
import Derived.LaidMore
import Derived.Lay
import Derived.SevenTiedAt
import Derived.Stop.Joined
import Derived.Lib.LaidIn
import Derived.Test.YtgmkagddfbfolaaDoorLie
import Derived.Test.YtgmkagddfbfolaaDoorTermLawsW
import Derived.Test.YtgmkagddfbfolaaDoorTermTabs
import Derived.WalkKit
import Derived.ProofKit
import Derived.OpenShut
import Derived.ShutString
import Derived.ChangeOld
import Derived.Below
namespace Go.Proofs.YtgmkagddfbfolaaDoor.termLaws
open Go.ChangeShapes Go.WideShapes Go.ChangeAt Go.RowKit
open Go.ChangeMaps (open_string shut_string)
set_option linter.unusedVariables false

theorem own : ownKnob Tryd.prog.godebug = none := by kernel_rfl
theorem laidOut : laidOutB Tryd.prog = true := by kernel_rfl

theorem walk (c0 : List Value) (l0 : (ByteArray) × (List ((Int) × (Int))) × (Bool)) (c1 : List Value) (l1 : (ByteArray) × (List ((Int) × (Int))) × (Bool)) (w : World) (hT : Ver.Tabs w) (w0 : (liePair (lieStr) (liePair (lieSlice (liePair (lieInt .i64) (lieInt .i64))) (lieBool))).holds w w.heap.size c0 l0) (w1 : (liePair (lieStr) (liePair (lieSlice (liePair (lieInt .i64) (lieInt .i64))) (lieBool))).holds w w.heap.size c1 l1) :
    Calls Tryd.prog 4 #[.agg c0.toArray, .agg c1.toArray] w fun e w' => e = .returned (.bool true) ∧ Below w.heap.size w w' := by
  obtain ⟨x1, x2, rfl, ⟨rfl, hs1⟩, x3, x4, rfl, ⟨A1, n1, c1, rfl, m1, m2, _, hr1⟩, rfl⟩ := w0
  obtain ⟨y1, y2, rfl, ⟨rfl, hs2⟩, y3, y4, rfl, ⟨A2, n2, c2', rfl, o1, o2, _, hr2⟩, rfl⟩ := w1
  unfold maxLen at hs1 hs2 m2 o2
  exact Term.laws_walk ⟨l0.1, l0.2.1, l0.2.2⟩ ⟨l0.1, l1.2.1, l1.2.2⟩ l1.1 A1 A2 n1 c1 n2 c2' w rfl (Span.spOn_of hr1) (Span.spOn_of hr2) (by omega) (by omega) hs1 hT

set_option maxRecDepth 100000 in
theorem op9 : Opens Tryd.prog 9 (lieStr) := opens_str Tryd.underlying9 (by kernel_rfl)
set_option maxRecDepth 100000 in
theorem op3 : Opens Tryd.prog 3 (lieInt .i64) := opens_int Tryd.underlying3 (by kernel_rfl)
set_option maxRecDepth 100000 in
theorem op34 : Opens Tryd.prog 34 (liePair (lieInt .i64) (lieInt .i64)) := opens_struct Tryd.underlying34 (by kernel_rfl) (opensF_cons rfl op3 (opensF_one rfl op3))
set_option maxRecDepth 100000 in
theorem op22 : Opens Tryd.prog 22 (lieSlice (liePair (lieInt .i64) (lieInt .i64))) := opens_slice Tryd.underlying22 (by kernel_rfl) op34 (by decide)
set_option maxRecDepth 100000 in
theorem op4 : Opens Tryd.prog 4 (lieBool) := opens_bool Tryd.underlying4 (by kernel_rfl)
set_option maxRecDepth 100000 in
theorem op24 : Opens Tryd.prog 24 (liePair (lieStr) (liePair (lieSlice (liePair (lieInt .i64) (lieInt .i64))) (lieBool))) := opens_struct Tryd.underlying24 (by kernel_rfl) (opensF_cons rfl op9 (opensF_cons rfl op22 (opensF_one rfl op4)))

set_option maxRecDepth 100000 in
theorem lifted (os : Os) (started : os.Started) (H : Type) (enc : TypeId × Value → H) :
    ReturnsInHanded {} Tryd.checked os 4 .any (fun w args => (Rows.termLawsSpec.pre enc Tryd.prog Tryd.f4 Rows.termLawsRow.domain false w args ∧ laidMetH Tryd.prog Rows.termLawsRow.laid w) ∧ sizedMet enc Tryd.prog Tryd.f4 (OpenSpec.ofChange Rows.termLawsSpec) false w args)
      (Rows.termLawsSpec.post enc Tryd.prog Tryd.f4 false true false false) := by
  refine returnsInHanded_of_change_and (C := Tryd.checked) (X := fun w _ => laidMetH Tryd.prog Rows.termLawsRow.laid w) (fun _ _ _ hh h => h.of_heap hh) own started (by kernel_rfl) Tryd.func4
    (ChangeSpec.witness_shaped (enc := enc) (C := Tryd.checked) (os := os) (X := fun w _ => laidMetH Tryd.prog Rows.termLawsRow.laid w) false (World.laidAll Tryd.prog os Rows.termLawsRow.laid) #[.agg #[.string ByteArray.empty, .slice none 0 0, .bool false], .agg #[.string ByteArray.empty, .slice none 0 0, .bool false]] 8 (World.laidAll_os _ _ _)
      (World.shaped_of_ZipB (by kernel_rfl) (by kernel_rfl)) (by kernel_rfl) (by kernel_rfl) (by kernel_rfl)
      (by rw [MakeChecks.laidMetH_plain _ _ _ (by kernel_rfl)]; exact laidMet_laidAll _ (by kernel_rfl) (by kernel_rfl))) ?_
  intro W base args ds gs before hval0 hW hcnd _ hL _
  have hval : ∀ (j : Nat) t v, Tryd.f4.params[j]? = some t → args[j]? = some v → Value.okWide Tryd.prog W .any base t v := hval0
  have hW' := hW
  obtain ⟨p, q, hA0, hV, rfl, hfz, hnd⟩ := hW
  have hA : DataW.TrodAll enc Tryd.prog W 0 (fun _ => true) true Tryd.f4.params.toList args.toList ds p := hA0
  rw [Tryd.params4] at hA hval
  obtain ⟨v0, vs0, d0, ds0, p0, q0, hargs, rfl, rfl, h0, r0⟩ := trodAll_cons hA
  obtain ⟨v1, vs1, d1, ds1, p1, q1, rfl, rfl, rfl, h1, r1⟩ := trodAll_cons r0
  obtain ⟨rfl, rfl, rfl⟩ := trodAll_nil r1
  obtain rfl : args = #[v0, v1] := by cases args; simp_all
  obtain ⟨rfl, rfl⟩ := trodVars_none hV
  obtain ⟨e0, rfl, hsz0⟩ := okWide_struct Tryd.underlying24 (hval 0 24 v0 rfl rfl)
  have k0 := h0
  have lt0 : ∀ x ∈ p0, x.block < W.heap.size := by obtain ⟨m, hm⟩ := k0; exact DataW.trod_lt m _ _ _ hm
  obtain ⟨c0, rfl⟩ : ∃ c : List Value, e0 = c.toArray := ⟨e0.toList, by simp⟩
  obtain ⟨l0, w0⟩ : ∃ l, (liePair (lieStr) (liePair (lieSlice (liePair (lieInt .i64) (lieInt .i64))) (lieBool))).holds W W.heap.size c0 l := by
    obtain ⟨fuel, hf⟩ := h0
    simpa [Value.cells] using op24.2 enc W _ _ fuel _ _ hf
  obtain ⟨e1, rfl, hsz1⟩ := okWide_struct Tryd.underlying24 (hval 1 24 v1 rfl rfl)
  have k1 := h1
  have lt1 : ∀ x ∈ p1, x.block < W.heap.size := by obtain ⟨m, hm⟩ := k1; exact DataW.trod_lt m _ _ _ hm
  obtain ⟨c1, rfl⟩ : ∃ c : List Value, e1 = c.toArray := ⟨e1.toList, by simp⟩
  obtain ⟨l1, w1⟩ : ∃ l, (liePair (lieStr) (liePair (lieSlice (liePair (lieInt .i64) (lieInt .i64))) (lieBool))).holds W W.heap.size c1 l := by
    obtain ⟨fuel, hf⟩ := h1
    simpa [Value.cells] using op24.2 enc W _ _ fuel _ _ hf
  clear hA0 hval0
  rw [MakeChecks.laidMetH_plain _ _ _ (by kernel_rfl)] at hL
  refine (walk c0 l0 c1 l1 W (Term.tabs_of_laid hL) w0 w1).mono fun e W' ⟨he, bel⟩ => ?_
  subst he
  exact ⟨_, rfl, _, _, _, [], _, [], hW', trodAll_mk1 (shut_bool Tryd.underlying4 _), (trodAll_cons_mk (Below.trod laidOut (by kernel_rfl) (of_decide_eq_true (by kernel_rfl)) k0 bel lt0) (trodAll_cons_mk (Below.trod laidOut (by kernel_rfl) (of_decide_eq_true (by kernel_rfl)) k1 bel lt1) trodAll_mk0)), rfl, bel.frame _, fun h => by cases h⟩

theorem over : Rows.termLawsRow.holds Tryd.pinned (OpenSpec.ofChange Rows.termLawsSpec) :=
  OpenClaim.holds_of_wide 4 Tryd.f4 rfl rfl rfl rfl rfl rfl rfl ⟨rfl, rfl, rfl, rfl, rfl⟩ rfl rfl rfl rfl rfl (by kernel_rfl) Tryd.func4 (by kernel_rfl)
    (of_decide_eq_true (by kernel_rfl)) (by unfold Func.isWrapper; first | (rw [if_pos (by decide +kernel)]; kernel_rfl) | (rw [if_neg (by decide +kernel)]; exact ⟨rfl, rfl⟩))
    (fun os started H enc _ => lifted os started H enc)

theorem proved : Rows.TermLawsCardSaid :=
  Claim7.holds_tied_plain_at .later [] [.data, .data, .data, .data] true (true, "4c918f59289091e3adbdbf2e8391713134d46f733c98dfca1b02f599bba16225") false over (fun _ h => by cases h) (by kernel_rfl) (fun _ h => by cases h) termLaws_row_tie rfl ⟨rfl, rfl⟩ (by kernel_rfl) rfl
    (fun f fn hf hfn => by
      obtain rfl : f = 4 := Option.some.inj ((show Tryd.prog.funcNamed "comprador/compradorlaw18.TermLaws" = some 4 by kernel_rfl).symm.trans hf) |>.symm
      obtain rfl : fn = Tryd.f4 := (Option.some.inj (Tryd.func4.symm.trans hfn)).symm
      exact ⟨by kernel_rfl, fun j t ht => by
        rw [Tryd.params4] at ht
        have hm : t ∈ [24, 24] := by simpa using Array.mem_of_getElem? ht
        have hall : ([24, 24].all fun u => !Tryd.prog.wantsStandIn u) = true := by kernel_rfl
        exact (show Tryd.prog.wantsStandIn t = false by simpa using List.all_eq_true.1 hall t hm)⟩)
    (by kernel_rfl)
#print axioms proved
end Go.Proofs.YtgmkagddfbfolaaDoor.termLaws
