/-
  Some texts of this claim, one behind the other: ManiKeys, ClashKeys. What each proves, and its condition, stands at its head.
-/
import Derived.Test.YtpicnbidbddggaaGreatDoorX17
import Derived.Shelf.SlIter.Nil
import Derived.Test.YtpicnbidbddggaaGreatDoorX4
import Derived.Test.YtpicnbidbddggaaGreatDoorX38
/-
  The library's Keys and Sorted, laid at this program: what the sorted keys of a map of names are. Condition: fewer entries than a slice may have.
-/
namespace Go.Proofs.YtpicnbidbddggaaGreatDoor.Mani
open Go Go.RowKit Go.Maps Go.Sort Go.Shelf
set_option linter.unusedVariables false
def sortedRen : Ren := ⟨fun | 6 => 64 | 8 => 105 | 9 => 30 | 11 => 142 | n => n, fun | 0 => 0 | 24 => 38 | 26 => 9 | 28 => 130 | 33 => 43 | n => n, fun n => n⟩
theorem sortedLays : SlLaysZ.n6 Tryz.prog sortedRen := {
  mixed := by kernel_rfl
  f6 := ⟨ "slices.Sorted[string]", by decide, Tryz.func64.trans (congrArg some (by kernel_rfl))⟩
  f8 := ⟨ "slices.Collect[string]", by decide, Tryz.func105.trans (congrArg some (by kernel_rfl))⟩
  f11 := ⟨ "slices.AppendSeq[[]string,string]", by decide, Tryz.func142.trans (congrArg some (by kernel_rfl))⟩
  t0 := Tryz.underlying0
  a0 := Tryz.isAgg0
  z0 := Tryz.sizeOf0
  v0 := Tryz.zeroValue0
  t24 := Tryz.underlying38
  a24 := Tryz.isAgg38
  z24 := Tryz.sizeOf38
  v24 := Tryz.zeroValue38
  t26 := Tryz.underlying9
  a26 := Tryz.isAgg9
  z26 := Tryz.sizeOf9
  v26 := Tryz.zeroValue9
  t28 := Tryz.underlying130
  a28 := Tryz.isAgg130
  z28 := Tryz.sizeOf130
  v28 := Tryz.zeroValue130
  i26 := by kernel_rfl }
theorem lays_sort (m : Nat) : AnyZ.SortsIn Tryz.prog sortedRen Fence.wide m :=
  ⟨fun blk off cap ss W hH hblk hsz => callsIn_wide.2 (AnyM.slices_Sort_string sortLays blk off cap ss W hH hblk hsz), fun p cap W => callsIn_wide.2 (AnyM.slices_Sort_string_none sortLays p cap W)⟩
end Go.Proofs.YtpicnbidbddggaaGreatDoor.Mani
/-
  The library's Keys at a map of terms, laid at this program: what the sorted keys of such a map are. Condition: fewer entries than a slice may have.
-/
namespace Go.Proofs.YtpicnbidbddggaaGreatDoor.Clash
open Go Go.RowKit Go.Maps Go.Sort Go.Shelf Go.Proofs.YtpicnbidbddggaaGreatDoor.Mani
set_option linter.unusedVariables false
def keysRenC : Ren := ⟨fun | 7 => 65 | 10 => 106 | n => n, fun | 0 => 0 | 3 => 63 | 4 => 4 | 23 => 126 | 26 => 9 | 27 => 129 | 28 => 130 | 33 => 43 | n => n, fun n => n⟩
theorem keysLaysC : SlLaysZ.n7 Tryz.prog keysRenC := {
  mixed := by kernel_rfl
  f7 := ⟨Tryz.f65.name, by decide, Tryz.func65.trans (congrArg some (by kernel_rfl))⟩
  f10 := ⟨Tryz.f106.name, by decide, Tryz.func106.trans (congrArg some (by kernel_rfl))⟩
  t0 := Tryz.underlying0
  a0 := Tryz.isAgg0
  z0 := Tryz.sizeOf0
  v0 := Tryz.zeroValue0
  t4 := Tryz.underlying4
  a4 := Tryz.isAgg4
  z4 := Tryz.sizeOf4
  v4 := Tryz.zeroValue4
  t23 := Tryz.underlying126
  a23 := Tryz.isAgg126
  z23 := Tryz.sizeOf126
  v23 := Tryz.zeroValue126
  t26 := Tryz.underlying9
  a26 := Tryz.isAgg9
  z26 := Tryz.sizeOf9
  v26 := Tryz.zeroValue9
  t27 := Tryz.underlying129
  a27 := Tryz.isAgg129
  z27 := Tryz.sizeOf129
  v27 := Tryz.zeroValue129
  t28 := Tryz.underlying130
  a28 := Tryz.isAgg130
  z28 := Tryz.sizeOf130
  v28 := Tryz.zeroValue130
  t33 := Tryz.underlying43
  a33 := Tryz.isAgg43
  z33 := Tryz.sizeOf43
  v33 := Tryz.zeroValue43 }
theorem keysC_any (b : Nat) (W : World) : Calls Tryz.prog 65 #[.map (some b)] W fun e w' => e = .returned (.func (.func 106) #[] #[.pointer (some ⟨W.heap.size, 0, none⟩)]) ∧ w' = W.alloc (.cells #[.map (some b)] 126) :=
  (callsIn_wide (n := 5)).1 (AnyZ.keys_in keysLaysC Fence.wide 5 trivial rfl (some b) W)
set_option maxHeartbeats 1000000 in
theorem sortedC_any (b nn : Nat) (D0 : DataW Value) (R : Value → Option (DataW Value × List MemPlace)) (w : World) (hown : w.ownsMap Tryz.prog 9 R b nn D0) (hsz : Maps.size D0 ≤ 100000) :
    Calls Tryz.prog 64 #[.func (.func 106) #[] #[.pointer (some ⟨w.heap.size, 0, none⟩)]] (w.alloc (.cells #[.map (some b)] 126)) fun e w' =>
      ∃ (v : Value) (ss : List (List UInt8)), e = .returned v ∧ ss.Perm (strKeys D0) ∧ w'.ownsRow (w.heap.size + 1) 9 1 v ss.length ((ss.mergeSort (fun x y => decide (x ≤ y))).map encStr) ∧ Below (w.heap.size + 1) (w.alloc (.cells #[.map (some b)] 126)) w' := by
  have hlt := hown.lt
  have gives : SeqGives Fence.wide 2 Tryz.prog 106 #[.pointer (some ⟨w.heap.size, 0, none⟩)] encStr (fun ss => ss.Perm (strKeys D0)) (Maps.size D0) (w.alloc (.cells #[.map (some b)] 126)) := by
    refine AnyZ.keys_gives (ρ := keysRenC) (R := R) { keysLaysC with } Fence.wide _ trivial rfl (by omega) w.heap.size b nn D0 _ (by simp) (by simp) ?_
    obtain ⟨es, clock, h1, h2, h3, h4⟩ := hown
    exact ⟨es, clock, (Below.heap_alloc _ _ b hlt).trans h1, h2, h3, h4⟩
  have key := (callsIn_wide (n := 5)).1 (AnyZ.sorted_in sortedLays Fence.wide 5 trivial trivial trivial trivial rfl (by omega) (lays_sort _) (enters_of Tryz.func30 (by kernel_rfl) rfl) 106 #[.pointer (some ⟨w.heap.size, 0, none⟩)] trivial (enters_of Tryz.func106 (by kernel_rfl) rfl) _ _ (by unfold maxLen; omega) (by omega) _ gives)
  refine key.mono ?_
  rintro e w' ⟨v, ss, he, hp, hrow, _, hb⟩
  rw [World.size_alloc] at hrow hb
  exact ⟨v, ss, he, hp, hrow, hb⟩
end Go.Proofs.YtpicnbidbddggaaGreatDoor.Clash
