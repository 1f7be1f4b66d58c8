/-
  Some texts of this claim, one behind the other: FitTabs, FactHoldsProof. What each proves, and its condition, stands at its head.
-/
import Derived.Test.YtpicnbidbddggaaGreatDoorRows
import Derived.Test.YtpicnbidbddggaaGreatDoorX14
import Derived.Lib.LaidU8
import Derived.Test.YtpicnbidbddggaaGreatDoorCards
import Derived.Test.YtpicnbidbddggaaGreatDoorTie
import Derived.LaidMore
import Derived.Lay
import Derived.SevenTiedAt
import Derived.Stop.Joined
import Derived.Lib.LaidIn
import Derived.Test.YtpicnbidbddggaaGreatDoorX15
import Derived.Test.YtpicnbidbddggaaGreatDoorX51
import Derived.Test.YtpicnbidbddggaaGreatDoorX52
import Derived.Test.YtpicnbidbddggaaGreatDoorX43
import Derived.WalkKit
import Derived.ProofKit
import Derived.OpenShut
import Derived.ShutString
import Derived.ChangeOld
import Derived.Below
/-
  What the program's own listed table holds is what the walks ask of the memory. No condition.
-/
namespace Go.Proofs.YtpicnbidbddggaaGreatDoor.Fit
open Go Go.RowKit Go.Lib Go.Proofs.YtpicnbidbddggaaGreatDoor.Ver
theorem tabIs_reads {P : Program} {W : World} {name : String} {k : IntKind} {zs : List Int} {g : Nat} {t e : TypeId} {n : Nat}
    (hg : P.globalNamed name = some g) (hty : (P.globals[g]?).map (·.type) = some t) (ht : P.underlying t = some (.array n e)) (he : P.underlying e = some (.int k)) (hce : P.cellsOf e = 1) (hct : P.cellsOf t = n)
    (h : VarReads P W name (tabData k zs)) : TabIs P W name k zs := by
  obtain ⟨g', t', cs, fuel, p, hg', ht', hvar, hd⟩ := h
  obtain rfl := Option.some.inj (hg.symm.trans hg')
  obtain rfl := Option.some.inj (hty.symm.trans ht')
  unfold TabIs
  rw [hvar, ← cells_of_tab ht he hce hct hd]
theorem units_same : (Rows.laid_comprador_ver_units : DataW Unit) = tabData .i64 [1000000, 1000, 1] := by kernel_rfl
theorem units_of_laid {w : World} (h : laidMet Tryz.prog [("comprador/ver.units", Rows.laid_comprador_ver_units)] w) : Ver.Units w :=
  tabIs_reads (g := 0) (by kernel_rfl) (by kernel_rfl) Tryz.underlying176 Tryz.underlying3 (by kernel_rfl) (by kernel_rfl) (by rw [← units_same]; exact Lib.laidMet.reads h (.head _))
end Go.Proofs.YtpicnbidbddggaaGreatDoor.Fit
/-
  The law FactHolds holds, its card tied to the program's text: for every input its call returns true and its arguments read afterwards as they did. Condition: the listed tables of the library hold what its text lays in them (the card's tie).
-/
namespace Go.Proofs.YtpicnbidbddggaaGreatDoor.factHolds
open Go.ChangeShapes Go.WideShapes Go.ChangeAt Go.RowKit
open Go.ChangeMaps (open_string shut_string)
set_option linter.unusedVariables false

theorem own : ownKnob Tryz.prog.godebug = none := by kernel_rfl
theorem laidOut : laidOutB Tryz.prog = true := by kernel_rfl

theorem walk (a0 : Option Addr) (len0 cap0 : Nat) (l0 : List ((ByteArray) × (List (Int)))) (a1 : Option Addr) (len1 cap1 : Nat) (l1 : List ((ByteArray) × (List ((Int) × (Int))))) (a2 : Option Addr) (len2 cap2 : Nat) (l2 : List ((ByteArray) × (Int))) (w : World) (hT : Ver.Units w) (w0 : len0 ≤ cap0 ∧ cap0 ≤ maxLen ∧ (a0 = none → cap0 = 0) ∧ RowOf (liePair (lieStr) (lieSlice (lieInt .u8))) w w.heap.size a0 len0 l0) (w1 : len1 ≤ cap1 ∧ cap1 ≤ maxLen ∧ (a1 = none → cap1 = 0) ∧ RowOf (liePair (lieStr) (lieSlice (liePair (lieInt .i64) (lieInt .i64)))) w w.heap.size a1 len1 l1) (w2 : len2 ≤ cap2 ∧ cap2 ≤ maxLen ∧ (a2 = none → cap2 = 0) ∧ RowOf (liePair (lieStr) (lieInt .i64)) w w.heap.size a2 len2 l2) :
    Calls Tryz.prog 3 #[.slice a0 len0 cap0, .slice a1 len1 cap1, .slice a2 len2 cap2] w fun e w' => e = .returned (.bool true) ∧ Below w.heap.size w w' := by
  unfold maxLen at *
  obtain ⟨k0, k1, _, hr0⟩ := w0
  obtain ⟨j0, j1, _, hr1⟩ := w1
  obtain ⟨m0, m1, _, hr2⟩ := w2
  exact Fact.fholds_walk Fact.specAskedF Fact.specReleasedF Fact.specRootF Fact.specAllF Fit.specWrong (Depot.toE l0) l1 l2 a0 a1 a2 len0 cap0 len1 cap1 len2 cap2 w (Depot.enOn_of hr0).1 (Need.ndOn_of hr1).1 (Pick.pkOn_of hr2).1 (by omega) (by omega) (by omega) m0 hT

set_option maxRecDepth 100000 in
theorem op9 : Opens Tryz.prog 9 (lieStr) := opens_str Tryz.underlying9 (by kernel_rfl)
set_option maxRecDepth 100000 in
theorem op5 : Opens Tryz.prog 5 (lieInt .u8) := opens_int Tryz.underlying5 (by kernel_rfl)
set_option maxRecDepth 100000 in
theorem op45 : Opens Tryz.prog 45 (lieSlice (lieInt .u8)) := opens_slice Tryz.underlying45 (by kernel_rfl) op5 (by decide)
set_option maxRecDepth 100000 in
theorem op47 : Opens Tryz.prog 47 (liePair (lieStr) (lieSlice (lieInt .u8))) := opens_struct Tryz.underlying47 (by kernel_rfl) (opensF_cons rfl op9 (opensF_one rfl op45))
set_option maxRecDepth 100000 in
theorem op22 : Opens Tryz.prog 22 (lieSlice (liePair (lieStr) (lieSlice (lieInt .u8)))) := opens_slice Tryz.underlying22 (by kernel_rfl) op47 (by decide)
set_option maxRecDepth 100000 in
theorem op3 : Opens Tryz.prog 3 (lieInt .i64) := opens_int Tryz.underlying3 (by kernel_rfl)
set_option maxRecDepth 100000 in
theorem op60 : Opens Tryz.prog 60 (liePair (lieInt .i64) (lieInt .i64)) := opens_struct Tryz.underlying60 (by kernel_rfl) (opensF_cons rfl op3 (opensF_one rfl op3))
set_option maxRecDepth 100000 in
theorem op48 : Opens Tryz.prog 48 (lieSlice (liePair (lieInt .i64) (lieInt .i64))) := opens_slice Tryz.underlying48 (by kernel_rfl) op60 (by decide)
set_option maxRecDepth 100000 in
theorem op50 : Opens Tryz.prog 50 (liePair (lieStr) (lieSlice (liePair (lieInt .i64) (lieInt .i64)))) := opens_struct Tryz.underlying50 (by kernel_rfl) (opensF_cons rfl op9 (opensF_one rfl op48))
set_option maxRecDepth 100000 in
theorem op23 : Opens Tryz.prog 23 (lieSlice (liePair (lieStr) (lieSlice (liePair (lieInt .i64) (lieInt .i64))))) := opens_slice Tryz.underlying23 (by kernel_rfl) op50 (by decide)
set_option maxRecDepth 100000 in
theorem op42 : Opens Tryz.prog 42 (liePair (lieStr) (lieInt .i64)) := opens_struct Tryz.underlying42 (by kernel_rfl) (opensF_cons rfl op9 (opensF_one rfl op3))
set_option maxRecDepth 100000 in
theorem op24 : Opens Tryz.prog 24 (lieSlice (liePair (lieStr) (lieInt .i64))) := opens_slice Tryz.underlying24 (by kernel_rfl) op42 (by decide)

set_option maxRecDepth 100000 in
theorem lifted (os : Os) (started : os.Started) (H : Type) (enc : TypeId × Value → H) :
    ReturnsInHanded {} Tryz.checked os 3 .any (fun w args => (Rows.factHoldsSpec.pre enc Tryz.prog Tryz.f3 Rows.factHoldsRow.domain false w args ∧ laidMetH Tryz.prog Rows.factHoldsRow.laid w) ∧ sizedMet enc Tryz.prog Tryz.f3 (OpenSpec.ofChange Rows.factHoldsSpec) false w args)
      (Rows.factHoldsSpec.post enc Tryz.prog Tryz.f3 false true false false) := by
  refine returnsInHanded_of_change_and (C := Tryz.checked) (X := fun w _ => laidMetH Tryz.prog Rows.factHoldsRow.laid w) (fun _ _ _ hh h => h.of_heap hh) own started (by kernel_rfl) Tryz.func3
    (ChangeSpec.witness_shaped (enc := enc) (C := Tryz.checked) (os := os) (X := fun w _ => laidMetH Tryz.prog Rows.factHoldsRow.laid w) false (World.laidAll Tryz.prog os Rows.factHoldsRow.laid) #[.slice none 0 0, .slice none 0 0, .slice none 0 0] 8 (World.laidAll_os _ _ _)
      (World.shaped_of_ZipB (by kernel_rfl) (by kernel_rfl)) (by kernel_rfl) (by kernel_rfl) (by kernel_rfl)
      (by rw [MakeChecks.laidMetH_plain _ _ _ (by kernel_rfl)]; exact laidMet_laidAll _ (by kernel_rfl) (by kernel_rfl))) ?_
  intro W base args ds gs before hval0 hW hcnd _ hL _
  have hval : ∀ (j : Nat) t v, Tryz.f3.params[j]? = some t → args[j]? = some v → Value.okWide Tryz.prog W .any base t v := hval0
  have hW' := hW
  obtain ⟨p, q, hA0, hV, rfl, hfz, hnd⟩ := hW
  have hA : DataW.TrodAll enc Tryz.prog W 0 (fun _ => true) true Tryz.f3.params.toList args.toList ds p := hA0
  rw [Tryz.params3] at hA hval
  obtain ⟨v0, vs0, d0, ds0, p0, q0, hargs, rfl, rfl, h0, r0⟩ := trodAll_cons hA
  obtain ⟨v1, vs1, d1, ds1, p1, q1, rfl, rfl, rfl, h1, r1⟩ := trodAll_cons r0
  obtain ⟨v2, vs2, d2, ds2, p2, q2, rfl, rfl, rfl, h2, r2⟩ := trodAll_cons r1
  obtain ⟨rfl, rfl, rfl⟩ := trodAll_nil r2
  obtain rfl : args = #[v0, v1, v2] := by cases args; simp_all
  obtain ⟨rfl, rfl⟩ := trodVars_none hV
  obtain ⟨a0, len0, cap0, rfl⟩ := okWide_slice Tryz.underlying22 (hval 0 22 v0 rfl rfl)
  have k0 := h0
  have lt0 : ∀ x ∈ p0, x.block < W.heap.size := by obtain ⟨m, hm⟩ := k0; exact DataW.trod_lt m _ _ _ hm
  obtain ⟨l0, w0⟩ : ∃ l, len0 ≤ cap0 ∧ cap0 ≤ maxLen ∧ (a0 = none → cap0 = 0) ∧ RowOf (liePair (lieStr) (lieSlice (lieInt .u8))) W W.heap.size a0 len0 l := by
    obtain ⟨fuel, hf⟩ := h0
    obtain ⟨d, A', n', c', e, h⟩ := op22.2 enc W _ _ fuel _ _ hf
    simp [Value.cells] at e
    obtain ⟨rfl, rfl, rfl⟩ := e
    exact ⟨d, h⟩
  obtain ⟨a1, len1, cap1, rfl⟩ := okWide_slice Tryz.underlying23 (hval 1 23 v1 rfl rfl)
  have k1 := h1
  have lt1 : ∀ x ∈ p1, x.block < W.heap.size := by obtain ⟨m, hm⟩ := k1; exact DataW.trod_lt m _ _ _ hm
  obtain ⟨l1, w1⟩ : ∃ l, len1 ≤ cap1 ∧ cap1 ≤ maxLen ∧ (a1 = none → cap1 = 0) ∧ RowOf (liePair (lieStr) (lieSlice (liePair (lieInt .i64) (lieInt .i64)))) W W.heap.size a1 len1 l := by
    obtain ⟨fuel, hf⟩ := h1
    obtain ⟨d, A', n', c', e, h⟩ := op23.2 enc W _ _ fuel _ _ hf
    simp [Value.cells] at e
    obtain ⟨rfl, rfl, rfl⟩ := e
    exact ⟨d, h⟩
  obtain ⟨a2, len2, cap2, rfl⟩ := okWide_slice Tryz.underlying24 (hval 2 24 v2 rfl rfl)
  have k2 := h2
  have lt2 : ∀ x ∈ p2, x.block < W.heap.size := by obtain ⟨m, hm⟩ := k2; exact DataW.trod_lt m _ _ _ hm
  obtain ⟨l2, w2⟩ : ∃ l, len2 ≤ cap2 ∧ cap2 ≤ maxLen ∧ (a2 = none → cap2 = 0) ∧ RowOf (liePair (lieStr) (lieInt .i64)) W W.heap.size a2 len2 l := by
    obtain ⟨fuel, hf⟩ := h2
    obtain ⟨d, A', n', c', e, h⟩ := op24.2 enc W _ _ fuel _ _ hf
    simp [Value.cells] at e
    obtain ⟨rfl, rfl, rfl⟩ := e
    exact ⟨d, h⟩
  clear hA0 hval0
  rw [MakeChecks.laidMetH_plain _ _ _ (by kernel_rfl)] at hL
  refine (walk a0 len0 cap0 l0 a1 len1 cap1 l1 a2 len2 cap2 l2 W (Fit.units_of_laid hL) w0 w1 w2).mono fun e W' ⟨he, bel⟩ => ?_
  subst he
  exact ⟨_, rfl, _, _, _, [], _, [], hW', trodAll_mk1 (shut_bool Tryz.underlying4 _), (trodAll_cons_mk (Below.trod laidOut (by kernel_rfl) (of_decide_eq_true (by kernel_rfl)) k0 bel lt0) (trodAll_cons_mk (Below.trod laidOut (by kernel_rfl) (of_decide_eq_true (by kernel_rfl)) k1 bel lt1) (trodAll_cons_mk (Below.trod laidOut (by kernel_rfl) (of_decide_eq_true (by kernel_rfl)) k2 bel lt2) trodAll_mk0))), rfl, bel.frame _, fun h => by cases h⟩

theorem over : Rows.factHoldsRow.holds Tryz.pinned (OpenSpec.ofChange Rows.factHoldsSpec) :=
  OpenClaim.holds_of_wide 3 Tryz.f3 rfl rfl rfl rfl rfl rfl rfl ⟨rfl, rfl, rfl, rfl, rfl⟩ rfl rfl rfl rfl rfl (by kernel_rfl) Tryz.func3 (by kernel_rfl)
    (of_decide_eq_true (by kernel_rfl)) (by unfold Func.isWrapper; first | (rw [if_pos (by decide +kernel)]; kernel_rfl) | (rw [if_neg (by decide +kernel)]; exact ⟨rfl, rfl⟩))
    (fun os started H enc _ => lifted os started H enc)

theorem proved : Rows.FactHoldsCardSaid :=
  Claim7.holds_tied_plain_at .later [] [.data] true (true, "1bf66fbd74ff4eedb036bf05cea200bc0267d35dd08966242ba8210dea92e6d7") true over (fun _ h => by cases h) (by kernel_rfl) (fun _ h => by cases h) factHolds_row_tie rfl ⟨rfl, rfl⟩ (by kernel_rfl) rfl
    (fun f fn hf hfn => by
      obtain rfl : f = 3 := Option.some.inj ((show Tryz.prog.funcNamed "comprador/compradorlaw20.FactHolds" = some 3 by kernel_rfl).symm.trans hf) |>.symm
      obtain rfl : fn = Tryz.f3 := (Option.some.inj (Tryz.func3.symm.trans hfn)).symm
      exact ⟨by kernel_rfl, fun j t ht => by
        rw [Tryz.params3] at ht
        have hm : t ∈ [22, 23, 24] := by simpa using Array.mem_of_getElem? ht
        have hall : ([22, 23, 24].all fun u => !Tryz.prog.wantsStandIn u) = true := by kernel_rfl
        exact (show Tryz.prog.wantsStandIn t = false by simpa using List.all_eq_true.1 hall t hm)⟩)
    (by kernel_rfl)
#print axioms proved
end Go.Proofs.YtpicnbidbddggaaGreatDoor.factHolds
