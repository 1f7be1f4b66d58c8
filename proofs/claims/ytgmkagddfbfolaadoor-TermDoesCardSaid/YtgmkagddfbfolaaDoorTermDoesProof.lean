/-
  The law TermDoes holds, its card tied to the program's text: for every input its call returns true and its arguments read afterwards as they did. Condition: the listed tables of the library hold what its text lays in them (the card's tie).
-/
import Derived.Test.YtgmkagddfbfolaaDoorRows
import Derived.Test.YtgmkagddfbfolaaDoorCards
import Derived.Test.YtgmkagddfbfolaaDoorTie
import Derived.LaidMore
import Derived.Lay
import Derived.SevenTiedAt
import Derived.Stop.Joined
import Derived.Lib.LaidIn
import Derived.Test.YtgmkagddfbfolaaDoorLie
import Derived.Test.YtgmkagddfbfolaaDoorTermDoesW
import Derived.Test.YtgmkagddfbfolaaDoorTermTabs
import Derived.WalkKit
import Derived.ProofKit
import Derived.OpenShut
import Derived.ShutString
import Derived.ChangeOld
import Derived.Below
namespace Go.Proofs.YtgmkagddfbfolaaDoor.termDoes
open Go.ChangeShapes Go.WideShapes Go.ChangeAt Go.RowKit
open Go.ChangeMaps (open_string shut_string)
set_option linter.unusedVariables false

theorem own : ownKnob Tryd.prog.godebug = none := by kernel_rfl
theorem laidOut : laidOutB Tryd.prog = true := by kernel_rfl

theorem walk (c0 : List Value) (l0 : (ByteArray) × (List ((Int) × (Int))) × (Bool)) (c1 : List Value) (l1 : (ByteArray) × (List ((Int) × (Int))) × (Bool)) (a2 : Int) (w : World) (hT : Ver.Tabs w) (w0 : (liePair (lieStr) (liePair (lieSlice (liePair (lieInt .i64) (lieInt .i64))) (lieBool))).holds w w.heap.size c0 l0) (w1 : (liePair (lieStr) (liePair (lieSlice (liePair (lieInt .i64) (lieInt .i64))) (lieBool))).holds w w.heap.size c1 l1) (w2 : (Lit.int .i64 a2).wf = true) :
    Calls Tryd.prog 3 #[.agg c0.toArray, .agg c1.toArray, .int .i64 a2] w fun e w' => e = .returned (.bool true) ∧ Below w.heap.size w w' := by
  obtain ⟨x1, x2, rfl, ⟨rfl, hs1⟩, x3, x4, rfl, ⟨A1, n1, c1, rfl, m1, m2, _, hr1⟩, rfl⟩ := w0
  obtain ⟨y1, y2, rfl, ⟨rfl, hs2⟩, y3, y4, rfl, ⟨A2, n2, c2', rfl, o1, o2, _, hr2⟩, rfl⟩ := w1
  unfold maxLen at hs1 hs2 m2 o2
  exact Term.does_walk ⟨l0.1, l0.2.1, l0.2.2⟩ ⟨l1.1, l1.2.1, l1.2.2⟩ a2 A1 A2 n1 c1 n2 c2' w (Span.spOn_of hr1) (Span.spOn_of hr2) (by omega) (by omega) hs1 hs2 hT

set_option maxRecDepth 100000 in
theorem op9 : Opens Tryd.prog 9 (lieStr) := opens_str Tryd.underlying9 (by kernel_rfl)
set_option maxRecDepth 100000 in
theorem op3 : Opens Tryd.prog 3 (lieInt .i64) := opens_int Tryd.underlying3 (by kernel_rfl)
set_option maxRecDepth 100000 in
theorem op34 : Opens Tryd.prog 34 (liePair (lieInt .i64) (lieInt .i64)) := opens_struct Tryd.underlying34 (by kernel_rfl) (opensF_cons rfl op3 (opensF_one rfl op3))
set_option maxRecDepth 100000 in
theorem op22 : Opens Tryd.prog 22 (lieSlice (liePair (lieInt .i64) (lieInt .i64))) := opens_slice Tryd.underlying22 (by kernel_rfl) op34 (by decide)
set_option maxRecDepth 100000 in
theorem op4 : Opens Tryd.prog 4 (lieBool) := opens_bool Tryd.underlying4 (by kernel_rfl)
set_option maxRecDepth 100000 in
theorem op24 : Opens Tryd.prog 24 (liePair (lieStr) (liePair (lieSlice (liePair (lieInt .i64) (lieInt .i64))) (lieBool))) := opens_struct Tryd.underlying24 (by kernel_rfl) (opensF_cons rfl op9 (opensF_cons rfl op22 (opensF_one rfl op4)))

set_option maxRecDepth 100000 in
theorem lifted (os : Os) (started : os.Started) (H : Type) (enc : TypeId × Value → H) :
    ReturnsInHanded {} Tryd.checked os 3 .any (fun w args => (Rows.termDoesSpec.pre enc Tryd.prog Tryd.f3 Rows.termDoesRow.domain false w args ∧ laidMetH Tryd.prog Rows.termDoesRow.laid w) ∧ sizedMet enc Tryd.prog Tryd.f3 (OpenSpec.ofChange Rows.termDoesSpec) false w args)
      (Rows.termDoesSpec.post enc Tryd.prog Tryd.f3 false true false false) := by
  refine returnsInHanded_of_change_and (C := Tryd.checked) (X := fun w _ => laidMetH Tryd.prog Rows.termDoesRow.laid w) (fun _ _ _ hh h => h.of_heap hh) own started (by kernel_rfl) Tryd.func3
    (ChangeSpec.witness_shaped (enc := enc) (C := Tryd.checked) (os := os) (X := fun w _ => laidMetH Tryd.prog Rows.termDoesRow.laid w) false (World.laidAll Tryd.prog os Rows.termDoesRow.laid) #[.agg #[.string ByteArray.empty, .slice none 0 0, .bool false], .agg #[.string ByteArray.empty, .slice none 0 0, .bool false], .int .i64 0] 8 (World.laidAll_os _ _ _)
      (World.shaped_of_ZipB (by kernel_rfl) (by kernel_rfl)) (by kernel_rfl) (by kernel_rfl) (by kernel_rfl)
      (by rw [MakeChecks.laidMetH_plain _ _ _ (by kernel_rfl)]; exact laidMet_laidAll _ (by kernel_rfl) (by kernel_rfl))) ?_
  intro W base args ds gs before hval0 hW hcnd _ hL _
  have hval : ∀ (j : Nat) t v, Tryd.f3.params[j]? = some t → args[j]? = some v → Value.okWide Tryd.prog W .any base t v := hval0
  have hW' := hW
  obtain ⟨p, q, hA0, hV, rfl, hfz, hnd⟩ := hW
  have hA : DataW.TrodAll enc Tryd.prog W 0 (fun _ => true) true Tryd.f3.params.toList args.toList ds p := hA0
  rw [Tryd.params3] at hA hval
  obtain ⟨v0, vs0, d0, ds0, p0, q0, hargs, rfl, rfl, h0, r0⟩ := trodAll_cons hA
  obtain ⟨v1, vs1, d1, ds1, p1, q1, rfl, rfl, rfl, h1, r1⟩ := trodAll_cons r0
  obtain ⟨v2, vs2, d2, ds2, p2, q2, rfl, rfl, rfl, h2, r2⟩ := trodAll_cons r1
  obtain ⟨rfl, rfl, rfl⟩ := trodAll_nil r2
  obtain rfl : args = #[v0, v1, v2] := by cases args; simp_all
  obtain ⟨rfl, rfl⟩ := trodVars_none hV
  obtain ⟨e0, rfl, hsz0⟩ := okWide_struct Tryd.underlying24 (hval 0 24 v0 rfl rfl)
  have k0 := h0
  have lt0 : ∀ x ∈ p0, x.block < W.heap.size := by obtain ⟨m, hm⟩ := k0; exact DataW.trod_lt m _ _ _ hm
  obtain ⟨c0, rfl⟩ : ∃ c : List Value, e0 = c.toArray := ⟨e0.toList, by simp⟩
  obtain ⟨l0, w0⟩ : ∃ l, (liePair (lieStr) (liePair (lieSlice (liePair (lieInt .i64) (lieInt .i64))) (lieBool))).holds W W.heap.size c0 l := by
    obtain ⟨fuel, hf⟩ := h0
    simpa [Value.cells] using op24.2 enc W _ _ fuel _ _ hf
  obtain ⟨e1, rfl, hsz1⟩ := okWide_struct Tryd.underlying24 (hval 1 24 v1 rfl rfl)
  have k1 := h1
  have lt1 : ∀ x ∈ p1, x.block < W.heap.size := by obtain ⟨m, hm⟩ := k1; exact DataW.trod_lt m _ _ _ hm
  obtain ⟨c1, rfl⟩ : ∃ c : List Value, e1 = c.toArray := ⟨e1.toList, by simp⟩
  obtain ⟨l1, w1⟩ : ∃ l, (liePair (lieStr) (liePair (lieSlice (liePair (lieInt .i64) (lieInt .i64))) (lieBool))).holds W W.heap.size c1 l := by
    obtain ⟨fuel, hf⟩ := h1
    simpa [Value.cells] using op24.2 enc W _ _ fuel _ _ hf
  obtain ⟨a2, rfl, rfl, rfl, w2⟩ := open_int Tryd.underlying3 (hval 2 3 v2 rfl rfl) h2
  clear hA0 hval0
  rw [MakeChecks.laidMetH_plain _ _ _ (by kernel_rfl)] at hL
  refine (walk c0 l0 c1 l1 a2 W (Term.tabs_of_laid hL) w0 w1 w2).mono fun e W' ⟨he, bel⟩ => ?_
  subst he
  exact ⟨_, rfl, _, _, _, [], _, [], hW', trodAll_mk1 (shut_bool Tryd.underlying4 _), (trodAll_cons_mk (Below.trod laidOut (by kernel_rfl) (of_decide_eq_true (by kernel_rfl)) k0 bel lt0) (trodAll_cons_mk (Below.trod laidOut (by kernel_rfl) (of_decide_eq_true (by kernel_rfl)) k1 bel lt1) (trodAll_cons_mk (shut_int Tryd.underlying3 w2) trodAll_mk0))), rfl, bel.frame _, fun h => by cases h⟩

theorem over : Rows.termDoesRow.holds Tryd.pinned (OpenSpec.ofChange Rows.termDoesSpec) :=
  OpenClaim.holds_of_wide 3 Tryd.f3 rfl rfl rfl rfl rfl rfl rfl ⟨rfl, rfl, rfl, rfl, rfl⟩ rfl rfl rfl rfl rfl (by kernel_rfl) Tryd.func3 (by kernel_rfl)
    (of_decide_eq_true (by kernel_rfl)) (by unfold Func.isWrapper; first | (rw [if_pos (by decide +kernel)]; kernel_rfl) | (rw [if_neg (by decide +kernel)]; exact ⟨rfl, rfl⟩))
    (fun os started H enc _ => lifted os started H enc)

theorem proved : Rows.TermDoesCardSaid :=
  Claim7.holds_tied_plain_at .later [] [.data, .data, .data, .data] true (true, "4c918f59289091e3adbdbf2e8391713134d46f733c98dfca1b02f599bba16225") false over (fun _ h => by cases h) (by kernel_rfl) (fun _ h => by cases h) termDoes_row_tie rfl ⟨rfl, rfl⟩ (by kernel_rfl) rfl
    (fun f fn hf hfn => by
      obtain rfl : f = 3 := Option.some.inj ((show Tryd.prog.funcNamed "comprador/compradorlaw18.TermDoes" = some 3 by kernel_rfl).symm.trans hf) |>.symm
      obtain rfl : fn = Tryd.f3 := (Option.some.inj (Tryd.func3.symm.trans hfn)).symm
      exact ⟨by kernel_rfl, fun j t ht => by
        rw [Tryd.params3] at ht
        have hm : t ∈ [24, 24, 3] := by simpa using Array.mem_of_getElem? ht
        have hall : ([24, 24, 3].all fun u => !Tryd.prog.wantsStandIn u) = true := by kernel_rfl
        exact (show Tryd.prog.wantsStandIn t = false by simpa using List.all_eq_true.1 hall t hm)⟩)
    (by kernel_rfl)
#print axioms proved
end Go.Proofs.YtgmkagddfbfolaaDoor.termDoes
