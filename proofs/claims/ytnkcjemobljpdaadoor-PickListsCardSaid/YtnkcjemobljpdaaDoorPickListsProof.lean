/-
  The law PickLists holds, its card tied to the program's text: for every input its call returns true and its arguments read afterwards as they did. Condition: the listed tables of the library hold what its text lays in them (the card's tie).
-/
import Derived.Test.YtnkcjemobljpdaaDoorRows
import Derived.Test.YtnkcjemobljpdaaDoorCards
import Derived.Test.YtnkcjemobljpdaaDoorTie
import Derived.LaidMore
import Derived.Lay
import Derived.SevenTiedAt
import Derived.Stop.Joined
import Derived.Lib.LaidIn
import Derived.Test.YtnkcjemobljpdaaDoorLie
import Derived.Test.YtnkcjemobljpdaaDoorPickListsW
import Derived.Test.YtnkcjemobljpdaaDoorPickTabs
import Derived.WalkKit
import Derived.ProofKit
import Derived.OpenShut
import Derived.ShutString
import Derived.ChangeOld
import Derived.Below
namespace Go.Proofs.YtnkcjemobljpdaaDoor.pickLists
open Go.ChangeShapes Go.WideShapes Go.ChangeAt Go.RowKit
open Go.ChangeMaps (open_string shut_string)
set_option linter.unusedVariables false

theorem own : ownKnob Tryd.prog.godebug = none := by kernel_rfl
theorem laidOut : laidOutB Tryd.prog = true := by kernel_rfl

theorem walk (a0 : Option Addr) (len0 cap0 : Nat) (l0 : List ((ByteArray) × (Int))) (a1 : Option Addr) (len1 cap1 : Nat) (l1 : List ((ByteArray) × (Int))) (c2 : List Value) (l2 : (ByteArray) × (Int)) (w : World) (hT : Pick.TabsP w) (w0 : len0 ≤ cap0 ∧ cap0 ≤ maxLen ∧ (a0 = none → cap0 = 0) ∧ RowOf (liePair (lieStr) (lieInt .i64)) w w.heap.size a0 len0 l0) (w1 : len1 ≤ cap1 ∧ cap1 ≤ maxLen ∧ (a1 = none → cap1 = 0) ∧ RowOf (liePair (lieStr) (lieInt .i64)) w w.heap.size a1 len1 l1) (w2 : (liePair (lieStr) (lieInt .i64)).holds w w.heap.size c2 l2) :
    Calls Tryd.prog 3 #[.slice a0 len0 cap0, .slice a1 len1 cap1, .agg c2.toArray] w fun e w' => e = .returned (.bool true) ∧ Below w.heap.size w w' := by
  unfold maxLen at *
  obtain ⟨k0, k1, k2, hr0⟩ := w0
  obtain ⟨j0, j1, j2, hr1⟩ := w1
  obtain ⟨cn, cv, rfl, ⟨rfl, e2⟩, ⟨rfl, _⟩⟩ := w2
  unfold maxLen at e2
  exact Pick.lists_walk l0 l1 l2.1 l2.2 a0 a1 len0 cap0 len1 cap1 w (Pick.pkOn_of hr0).1 (Pick.pkOn_of hr1).1 k0 (by omega) (by omega) (by omega) hT

set_option maxRecDepth 100000 in
theorem op9 : Opens Tryd.prog 9 (lieStr) := opens_str Tryd.underlying9 (by kernel_rfl)
set_option maxRecDepth 100000 in
theorem op3 : Opens Tryd.prog 3 (lieInt .i64) := opens_int Tryd.underlying3 (by kernel_rfl)
set_option maxRecDepth 100000 in
theorem op24 : Opens Tryd.prog 24 (liePair (lieStr) (lieInt .i64)) := opens_struct Tryd.underlying24 (by kernel_rfl) (opensF_cons rfl op9 (opensF_one rfl op3))
set_option maxRecDepth 100000 in
theorem op22 : Opens Tryd.prog 22 (lieSlice (liePair (lieStr) (lieInt .i64))) := opens_slice Tryd.underlying22 (by kernel_rfl) op24 (by decide)

set_option maxRecDepth 100000 in
theorem lifted (os : Os) (started : os.Started) (H : Type) (enc : TypeId × Value → H) :
    ReturnsInHanded {} Tryd.checked os 3 .any (fun w args => (Rows.pickListsSpec.pre enc Tryd.prog Tryd.f3 Rows.pickListsRow.domain false w args ∧ laidMetH Tryd.prog Rows.pickListsRow.laid w) ∧ sizedMet enc Tryd.prog Tryd.f3 (OpenSpec.ofChange Rows.pickListsSpec) false w args)
      (Rows.pickListsSpec.post enc Tryd.prog Tryd.f3 false true false false) := by
  refine Pick.handed_shaped (C := Tryd.checked) (X := fun w _ => laidMetH Tryd.prog Rows.pickListsRow.laid w) (fun _ _ _ hh h => h.of_heap hh) own started (by kernel_rfl) Tryd.func3
    (ChangeSpec.witness_shaped (enc := enc) (C := Tryd.checked) (os := os) (X := fun w _ => laidMetH Tryd.prog Rows.pickListsRow.laid w) false (World.laidAll Tryd.prog os Rows.pickListsRow.laid) #[.slice none 0 0, .slice none 0 0, .agg #[.string ByteArray.empty, .int .i64 0]] 8 (World.laidAll_os _ _ _)
      (World.shaped_of_ZipB (by kernel_rfl) (by kernel_rfl)) (by kernel_rfl) (by kernel_rfl) (by kernel_rfl)
      (by rw [MakeChecks.laidMetH_plain _ _ _ (by kernel_rfl)]; exact laidMet_laidAll _ (by kernel_rfl) (by kernel_rfl))) ?_
  intro W base args ds gs before hval0 hW hcnd _ hL hsh _
  have hval : ∀ (j : Nat) t v, Tryd.f3.params[j]? = some t → args[j]? = some v → Value.okWide Tryd.prog W .any base t v := hval0
  have hW' := hW
  obtain ⟨p, q, hA0, hV, rfl, hfz, hnd⟩ := hW
  have hA : DataW.TrodAll enc Tryd.prog W 0 (fun _ => true) true Tryd.f3.params.toList args.toList ds p := hA0
  rw [Tryd.params3] at hA hval
  obtain ⟨v0, vs0, d0, ds0, p0, q0, hargs, rfl, rfl, h0, r0⟩ := trodAll_cons hA
  obtain ⟨v1, vs1, d1, ds1, p1, q1, rfl, rfl, rfl, h1, r1⟩ := trodAll_cons r0
  obtain ⟨v2, vs2, d2, ds2, p2, q2, rfl, rfl, rfl, h2, r2⟩ := trodAll_cons r1
  obtain ⟨rfl, rfl, rfl⟩ := trodAll_nil r2
  obtain rfl : args = #[v0, v1, v2] := by cases args; simp_all
  obtain ⟨rfl, rfl⟩ := trodVars_none hV
  obtain ⟨a0, len0, cap0, rfl⟩ := okWide_slice Tryd.underlying22 (hval 0 22 v0 rfl rfl)
  have k0 := h0
  have lt0 : ∀ x ∈ p0, x.block < W.heap.size := by obtain ⟨m, hm⟩ := k0; exact DataW.trod_lt m _ _ _ hm
  obtain ⟨l0, w0⟩ : ∃ l, len0 ≤ cap0 ∧ cap0 ≤ maxLen ∧ (a0 = none → cap0 = 0) ∧ RowOf (liePair (lieStr) (lieInt .i64)) W W.heap.size a0 len0 l := by
    obtain ⟨fuel, hf⟩ := h0
    obtain ⟨d, A', n', c', e, h⟩ := op22.2 enc W _ _ fuel _ _ hf
    simp [Value.cells] at e
    obtain ⟨rfl, rfl, rfl⟩ := e
    exact ⟨d, h⟩
  obtain ⟨a1, len1, cap1, rfl⟩ := okWide_slice Tryd.underlying22 (hval 1 22 v1 rfl rfl)
  have k1 := h1
  have lt1 : ∀ x ∈ p1, x.block < W.heap.size := by obtain ⟨m, hm⟩ := k1; exact DataW.trod_lt m _ _ _ hm
  obtain ⟨l1, w1⟩ : ∃ l, len1 ≤ cap1 ∧ cap1 ≤ maxLen ∧ (a1 = none → cap1 = 0) ∧ RowOf (liePair (lieStr) (lieInt .i64)) W W.heap.size a1 len1 l := by
    obtain ⟨fuel, hf⟩ := h1
    obtain ⟨d, A', n', c', e, h⟩ := op22.2 enc W _ _ fuel _ _ hf
    simp [Value.cells] at e
    obtain ⟨rfl, rfl, rfl⟩ := e
    exact ⟨d, h⟩
  obtain ⟨e2, rfl, hsz2⟩ := okWide_struct Tryd.underlying24 (hval 2 24 v2 rfl rfl)
  have k2 := h2
  have lt2 : ∀ x ∈ p2, x.block < W.heap.size := by obtain ⟨m, hm⟩ := k2; exact DataW.trod_lt m _ _ _ hm
  obtain ⟨c2, rfl⟩ : ∃ c : List Value, e2 = c.toArray := ⟨e2.toList, by simp⟩
  obtain ⟨l2, w2⟩ : ∃ l, (liePair (lieStr) (lieInt .i64)).holds W W.heap.size c2 l := by
    obtain ⟨fuel, hf⟩ := h2
    simpa [Value.cells] using op24.2 enc W _ _ fuel _ _ hf
  clear hA0 hval0
  rw [MakeChecks.laidMetH_plain _ _ _ (by kernel_rfl)] at hL
  refine (walk a0 len0 cap0 l0 a1 len1 cap1 l1 c2 l2 W (Pick.tabs_of_laid hL hsh) w0 w1 w2).mono fun e W' ⟨he, bel⟩ => ?_
  subst he
  exact ⟨_, rfl, _, _, _, [], _, [], hW', trodAll_mk1 (shut_bool Tryd.underlying4 _), (trodAll_cons_mk (Below.trod laidOut (by kernel_rfl) (of_decide_eq_true (by kernel_rfl)) k0 bel lt0) (trodAll_cons_mk (Below.trod laidOut (by kernel_rfl) (of_decide_eq_true (by kernel_rfl)) k1 bel lt1) (trodAll_cons_mk (Below.trod laidOut (by kernel_rfl) (of_decide_eq_true (by kernel_rfl)) k2 bel lt2) trodAll_mk0))), rfl, bel.frame _, fun h => by cases h⟩

theorem over : Rows.pickListsRow.holds Tryd.pinned (OpenSpec.ofChange Rows.pickListsSpec) :=
  OpenClaim.holds_of_wide 3 Tryd.f3 rfl rfl rfl rfl rfl rfl rfl ⟨rfl, rfl, rfl, rfl, rfl⟩ rfl rfl rfl rfl rfl (by kernel_rfl) Tryd.func3 (by kernel_rfl)
    (of_decide_eq_true (by kernel_rfl)) (by unfold Func.isWrapper; first | (rw [if_pos (by decide +kernel)]; kernel_rfl) | (rw [if_neg (by decide +kernel)]; exact ⟨rfl, rfl⟩))
    (fun os started H enc _ => lifted os started H enc)

theorem proved : Rows.PickListsCardSaid :=
  Claim7.holds_tied_plain_at .later [] [.data, .data, .data, .data, .data, .pinned] true (true, "d040ee3ec87ee58cf06af9899a062075e47f1f26d909213bf07838b666bf8e21") false over (fun _ h => by cases h) (by kernel_rfl) (fun _ h => by cases h) pickLists_row_tie rfl ⟨rfl, rfl⟩ (by kernel_rfl) rfl
    (fun f fn hf hfn => by
      obtain rfl : f = 3 := Option.some.inj ((show Tryd.prog.funcNamed "comprador/compradorlaw15.PickLists" = some 3 by kernel_rfl).symm.trans hf) |>.symm
      obtain rfl : fn = Tryd.f3 := (Option.some.inj (Tryd.func3.symm.trans hfn)).symm
      exact ⟨by kernel_rfl, fun j t ht => by
        rw [Tryd.params3] at ht
        have hm : t ∈ [22, 22, 24] := by simpa using Array.mem_of_getElem? ht
        have hall : ([22, 22, 24].all fun u => !Tryd.prog.wantsStandIn u) = true := by kernel_rfl
        exact (show Tryd.prog.wantsStandIn t = false by simpa using List.all_eq_true.1 hall t hm)⟩)
    (by kernel_rfl)
#print axioms proved
end Go.Proofs.YtnkcjemobljpdaaDoor.pickLists
