/-
  Some texts of this claim, one behind the other: ClashKeys. What each proves, and its condition, stands at its head.
-/
import Derived.Test.YtckioihkknhfpaaGreatDoorX41
import Derived.Test.YtckioihkknhfpaaGreatDoorX37
/-
  The library's Keys at a map of terms, laid at this program: what the sorted keys of such a map are. Condition: fewer entries than a slice may have.
-/
namespace Go.Proofs.YtckioihkknhfpaaGreatDoor.Clash
open Go Go.RowKit Go.Maps Go.Sort Go.Shelf Go.Proofs.YtckioihkknhfpaaGreatDoor.Mani
set_option linter.unusedVariables false
def keysRenC : Ren := ⟨fun | 7 => 41 | 10 => 68 | n => n, fun | 0 => 0 | 3 => 30 | 4 => 4 | 23 => 52 | 26 => 9 | 27 => 55 | 28 => 56 | 33 => 50 | n => n, fun n => n⟩
theorem keysLaysC : SlLaysZ.n7 Tryz.prog keysRenC := {
  mixed := by kernel_rfl
  f7 := ⟨Tryz.f41.name, by decide, Tryz.func41.trans (congrArg some (by kernel_rfl))⟩
  f10 := ⟨Tryz.f68.name, by decide, Tryz.func68.trans (congrArg some (by kernel_rfl))⟩
  t0 := Tryz.underlying0
  a0 := Tryz.isAgg0
  z0 := Tryz.sizeOf0
  v0 := Tryz.zeroValue0
  t4 := Tryz.underlying4
  a4 := Tryz.isAgg4
  z4 := Tryz.sizeOf4
  v4 := Tryz.zeroValue4
  t23 := Tryz.underlying52
  a23 := Tryz.isAgg52
  z23 := Tryz.sizeOf52
  v23 := Tryz.zeroValue52
  t26 := Tryz.underlying9
  a26 := Tryz.isAgg9
  z26 := Tryz.sizeOf9
  v26 := Tryz.zeroValue9
  t27 := Tryz.underlying55
  a27 := Tryz.isAgg55
  z27 := Tryz.sizeOf55
  v27 := Tryz.zeroValue55
  t28 := Tryz.underlying56
  a28 := Tryz.isAgg56
  z28 := Tryz.sizeOf56
  v28 := Tryz.zeroValue56
  t33 := Tryz.underlying50
  a33 := Tryz.isAgg50
  z33 := Tryz.sizeOf50
  v33 := Tryz.zeroValue50 }
theorem keysC_any (b : Nat) (W : World) : Calls Tryz.prog 41 #[.map (some b)] W fun e w' => e = .returned (.func (.func 68) #[] #[.pointer (some ⟨W.heap.size, 0, none⟩)]) ∧ w' = W.alloc (.cells #[.map (some b)] 52) :=
  (callsIn_wide (n := 5)).1 (AnyZ.keys_in keysLaysC Fence.wide 5 trivial rfl (some b) W)
set_option maxHeartbeats 1000000 in
theorem sortedC_any (b nn : Nat) (D0 : DataW Value) (R : Value → Option (DataW Value × List MemPlace)) (w : World) (hown : w.ownsMap Tryz.prog 9 R b nn D0) (hsz : Maps.size D0 ≤ 100000) :
    Calls Tryz.prog 40 #[.func (.func 68) #[] #[.pointer (some ⟨w.heap.size, 0, none⟩)]] (w.alloc (.cells #[.map (some b)] 52)) fun e w' =>
      ∃ (v : Value) (ss : List (List UInt8)), e = .returned v ∧ ss.Perm (strKeys D0) ∧ w'.ownsRow (w.heap.size + 1) 9 1 v ss.length ((ss.mergeSort (fun x y => decide (x ≤ y))).map encStr) ∧ Below (w.heap.size + 1) (w.alloc (.cells #[.map (some b)] 52)) w' := by
  have hlt := hown.lt
  have gives : SeqGives Fence.wide 2 Tryz.prog 68 #[.pointer (some ⟨w.heap.size, 0, none⟩)] encStr (fun ss => ss.Perm (strKeys D0)) (Maps.size D0) (w.alloc (.cells #[.map (some b)] 52)) := by
    refine AnyZ.keys_gives (ρ := keysRenC) (R := R) { keysLaysC with } Fence.wide _ trivial rfl (by omega) w.heap.size b nn D0 _ (by simp) (by simp) ?_
    obtain ⟨es, clock, h1, h2, h3, h4⟩ := hown
    exact ⟨es, clock, (Below.heap_alloc _ _ b hlt).trans h1, h2, h3, h4⟩
  have key := (callsIn_wide (n := 5)).1 (AnyZ.sorted_in sortedLays Fence.wide 5 trivial trivial trivial trivial rfl (by omega) (lays_sort _) (enters_of Tryz.func67 (by kernel_rfl) rfl) 68 #[.pointer (some ⟨w.heap.size, 0, none⟩)] trivial (enters_of Tryz.func68 (by kernel_rfl) rfl) _ _ (by unfold maxLen; omega) (by omega) _ gives)
  refine key.mono ?_
  rintro e w' ⟨v, ss, he, hp, hrow, _, hb⟩
  rw [World.size_alloc] at hrow hb
  exact ⟨v, ss, he, hp, hrow, hb⟩
end Go.Proofs.YtckioihkknhfpaaGreatDoor.Clash
