/-
  The law VerStands holds, its card tied to the program's text: for every input its call returns true and its arguments read afterwards as they did. Condition: the listed tables of the library hold what its text lays in them (the card's tie).
-/
import Derived.Test.YtmaeeibgdjkonaaDoorRows
import Derived.Test.YtmaeeibgdjkonaaDoorCards
import Derived.Test.YtmaeeibgdjkonaaDoorTie
import Derived.LaidMore
import Derived.Lay
import Derived.SevenTiedAt
import Derived.Stop.Joined
import Derived.Lib.LaidIn
import Derived.Test.YtmaeeibgdjkonaaDoorLie
import Derived.Test.YtmaeeibgdjkonaaDoorVerStandsW
import Derived.Test.YtmaeeibgdjkonaaDoorVerTabs
import Derived.WalkKit
import Derived.ProofKit
import Derived.OpenShut
import Derived.ShutString
import Derived.ChangeOld
import Derived.Below
namespace Go.Proofs.YtmaeeibgdjkonaaDoor.verStands
open Go.ChangeShapes Go.WideShapes Go.ChangeAt Go.RowKit
open Go.ChangeMaps (open_string shut_string)
set_option linter.unusedVariables false

theorem own : ownKnob Tryd.prog.godebug = none := by kernel_rfl
theorem laidOut : laidOutB Tryd.prog = true := by kernel_rfl

theorem walk (c0 : List Value) (l0 : List (Int)) (c1 : List Value) (l1 : List (Int)) (a2 : Int) (w : World) (hT : Ver.Tabs w) (w0 : (lieArr 3 (lieInt .i64)).holds w w.heap.size c0 l0) (w1 : (lieArr 3 (lieInt .i64)).holds w w.heap.size c1 l1) (w2 : (Lit.int .u8 a2).wf = true) :
    Calls Tryd.prog 5 #[.agg c0.toArray, .agg c1.toArray, .int .u8 a2] w fun e w' => e = .returned (.bool true) ∧ Below w.heap.size w w' := by
  obtain ⟨hc0, hl0, _⟩ := arr_cells w0
  obtain ⟨x, y, z, rfl⟩ : ∃ x y z, l0 = [x, y, z] := by
    match l0, hl0 with
    | [x, y, z], _ => exact ⟨x, y, z, rfl⟩
  obtain ⟨hc1, hl1, _⟩ := arr_cells w1
  obtain ⟨x', y', z', rfl⟩ : ∃ x y z, l1 = [x, y, z] := by
    match l1, hl1 with
    | [x, y, z], _ => exact ⟨x, y, z, rfl⟩
  subst hc0 hc1
  have hy : 0 ≤ a2 ∧ a2 ≤ 255 := by simpa [Lit.wf, IntKind.min, IntKind.max, IntKind.signed, IntKind.bits] using w2
  by_cases h : Ver.Fits x y z ∧ Ver.Fits x' y' z'
  · exact Ver.stands_yes x y z x' y' z' a2 (a2 % 3).toNat w h.1 h.2 hy.1 hy.2 (by omega) hT
  · exact Ver.stands_skip x y z x' y' z' a2 w h hT

theorem op3 : Opens Tryd.prog 3 (lieInt .i64) := opens_int Tryd.underlying3 (by kernel_rfl)
theorem op22 : Opens Tryd.prog 22 (lieArr 3 (lieInt .i64)) := opens_array Tryd.underlying22 (by kernel_rfl) op3

set_option maxRecDepth 100000 in
theorem lifted (os : Os) (started : os.Started) (H : Type) (enc : TypeId × Value → H) :
    ReturnsInHanded {} Tryd.checked os 5 .any (fun w args => (Rows.verStandsSpec.pre enc Tryd.prog Tryd.f5 Rows.verStandsRow.domain false w args ∧ laidMetH Tryd.prog Rows.verStandsRow.laid w) ∧ sizedMet enc Tryd.prog Tryd.f5 (OpenSpec.ofChange Rows.verStandsSpec) false w args)
      (Rows.verStandsSpec.post enc Tryd.prog Tryd.f5 false true false false) := by
  refine returnsInHanded_of_change_and (C := Tryd.checked) (X := fun w _ => laidMetH Tryd.prog Rows.verStandsRow.laid w) (fun _ _ _ hh h => h.of_heap hh) own started (by kernel_rfl) Tryd.func5
    (ChangeSpec.witness_shaped (enc := enc) (C := Tryd.checked) (os := os) (X := fun w _ => laidMetH Tryd.prog Rows.verStandsRow.laid w) false (World.laidAll Tryd.prog os Rows.verStandsRow.laid) #[.agg #[.int .i64 0, .int .i64 0, .int .i64 0], .agg #[.int .i64 0, .int .i64 0, .int .i64 0], .int .u8 0] 8 (World.laidAll_os _ _ _)
      (World.shaped_of_ZipB (by kernel_rfl) (by kernel_rfl)) (by kernel_rfl) (by kernel_rfl) (by kernel_rfl)
      (by rw [MakeChecks.laidMetH_plain _ _ _ (by kernel_rfl)]; exact laidMet_laidAll _ (by kernel_rfl) (by kernel_rfl))) ?_
  intro W base args ds gs before hval0 hW hcnd _ hL _
  have hval : ∀ (j : Nat) t v, Tryd.f5.params[j]? = some t → args[j]? = some v → Value.okWide Tryd.prog W .any base t v := hval0
  have hW' := hW
  obtain ⟨p, q, hA0, hV, rfl, hfz, hnd⟩ := hW
  have hA : DataW.TrodAll enc Tryd.prog W 0 (fun _ => true) true Tryd.f5.params.toList args.toList ds p := hA0
  rw [Tryd.params5] at hA hval
  obtain ⟨v0, vs0, d0, ds0, p0, q0, hargs, rfl, rfl, h0, r0⟩ := trodAll_cons hA
  obtain ⟨v1, vs1, d1, ds1, p1, q1, rfl, rfl, rfl, h1, r1⟩ := trodAll_cons r0
  obtain ⟨v2, vs2, d2, ds2, p2, q2, rfl, rfl, rfl, h2, r2⟩ := trodAll_cons r1
  obtain ⟨rfl, rfl, rfl⟩ := trodAll_nil r2
  obtain rfl : args = #[v0, v1, v2] := by cases args; simp_all
  obtain ⟨rfl, rfl⟩ := trodVars_none hV
  obtain ⟨e0, rfl, hsz0⟩ := okWide_array Tryd.underlying22 (hval 0 22 v0 rfl rfl)
  have k0 := h0
  have lt0 : ∀ x ∈ p0, x.block < W.heap.size := by obtain ⟨m, hm⟩ := k0; exact DataW.trod_lt m _ _ _ hm
  obtain ⟨c0, rfl⟩ : ∃ c : List Value, e0 = c.toArray := ⟨e0.toList, by simp⟩
  obtain ⟨l0, w0⟩ : ∃ l, (lieArr 3 (lieInt .i64)).holds W W.heap.size c0 l := by
    obtain ⟨fuel, hf⟩ := h0
    simpa [Value.cells] using op22.2 enc W _ _ fuel _ _ hf
  obtain ⟨e1, rfl, hsz1⟩ := okWide_array Tryd.underlying22 (hval 1 22 v1 rfl rfl)
  have k1 := h1
  have lt1 : ∀ x ∈ p1, x.block < W.heap.size := by obtain ⟨m, hm⟩ := k1; exact DataW.trod_lt m _ _ _ hm
  obtain ⟨c1, rfl⟩ : ∃ c : List Value, e1 = c.toArray := ⟨e1.toList, by simp⟩
  obtain ⟨l1, w1⟩ : ∃ l, (lieArr 3 (lieInt .i64)).holds W W.heap.size c1 l := by
    obtain ⟨fuel, hf⟩ := h1
    simpa [Value.cells] using op22.2 enc W _ _ fuel _ _ hf
  obtain ⟨a2, rfl, rfl, rfl, w2⟩ := open_int Tryd.underlying5 (hval 2 5 v2 rfl rfl) h2
  clear hA0 hval0
  rw [MakeChecks.laidMetH_plain _ _ _ (by kernel_rfl)] at hL
  refine (walk c0 l0 c1 l1 a2 W (Ver.tabs_of_laid hL) w0 w1 w2).mono fun e W' ⟨he, bel⟩ => ?_
  subst he
  exact ⟨_, rfl, _, _, _, [], _, [], hW', trodAll_mk1 (shut_bool Tryd.underlying4 _), (trodAll_cons_mk (Below.trod laidOut (by kernel_rfl) (of_decide_eq_true (by kernel_rfl)) k0 bel lt0) (trodAll_cons_mk (Below.trod laidOut (by kernel_rfl) (of_decide_eq_true (by kernel_rfl)) k1 bel lt1) (trodAll_cons_mk (shut_int Tryd.underlying5 w2) trodAll_mk0))), rfl, bel.frame _, fun h => by cases h⟩

theorem over : Rows.verStandsRow.holds Tryd.pinned (OpenSpec.ofChange Rows.verStandsSpec) :=
  OpenClaim.holds_of_wide 5 Tryd.f5 rfl rfl rfl rfl rfl rfl rfl ⟨rfl, rfl, rfl, rfl, rfl⟩ rfl rfl rfl rfl rfl (by kernel_rfl) Tryd.func5 (by kernel_rfl)
    (of_decide_eq_true (by kernel_rfl)) (by unfold Func.isWrapper; first | (rw [if_pos (by decide +kernel)]; kernel_rfl) | (rw [if_neg (by decide +kernel)]; exact ⟨rfl, rfl⟩))
    (fun os started H enc _ => lifted os started H enc)

theorem proved : Rows.VerStandsCardSaid :=
  Claim7.holds_tied_plain_at .later [] [.data, .data, .data, .data] true (true, "7feeb97dfe63a3cad746138dac13ce1f0c48a80b1ef087778c0eddfdcbaa5829") false over (fun _ h => by cases h) (by kernel_rfl) (fun _ h => by cases h) verStands_row_tie rfl ⟨rfl, rfl⟩ (by kernel_rfl) rfl
    (fun f fn hf hfn => by
      obtain rfl : f = 5 := Option.some.inj ((show Tryd.prog.funcNamed "comprador/compradorlaw05.VerStands" = some 5 by kernel_rfl).symm.trans hf) |>.symm
      obtain rfl : fn = Tryd.f5 := (Option.some.inj (Tryd.func5.symm.trans hfn)).symm
      exact ⟨by kernel_rfl, fun j t ht => by
        rw [Tryd.params5] at ht
        have hm : t ∈ [22, 22, 5] := by simpa using Array.mem_of_getElem? ht
        have hall : ([22, 22, 5].all fun u => !Tryd.prog.wantsStandIn u) = true := by kernel_rfl
        exact (show Tryd.prog.wantsStandIn t = false by simpa using List.all_eq_true.1 hall t hm)⟩)
    (by kernel_rfl)
#print axioms proved
end Go.Proofs.YtmaeeibgdjkonaaDoor.verStands
