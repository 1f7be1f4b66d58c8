/-
  Some texts of this claim, one behind the other: ManiKeys. What each proves, and its condition, stands at its head.
-/
import Derived.Test.YtdkcjjbnoeediaaZ11
import Derived.Shelf.SlIter.Nil
import Derived.Test.YtdkcjjbnoeediaaZ26
/-
  The library's Keys and Sorted, laid at this program: what the sorted keys of a map of names are. Condition: fewer entries than a slice may have.
-/
namespace Go.Proofs.Ytdkcjjbnoeediaa.Mani
open Go Go.RowKit Go.Maps Go.Sort Go.Shelf
set_option linter.unusedVariables false
def keysRen : Ren := ⟨fun | 7 => 43 | 10 => 54 | n => n, fun | 0 => 0 | 3 => 81 | 4 => 4 | 23 => 56 | 26 => 9 | 27 => 90 | 28 => 91 | 33 => 50 | n => n, fun n => n⟩
theorem keysLays : SlLaysZ.n7 Try.prog keysRen := {
  mixed := by kernel_rfl
  f7 := ⟨Try.f43.name, by decide, Try.func43.trans (congrArg some (by kernel_rfl))⟩
  f10 := ⟨Try.f54.name, by decide, Try.func54.trans (congrArg some (by kernel_rfl))⟩
  t0 := Try.underlying0
  a0 := Try.isAgg0
  z0 := Try.sizeOf0
  v0 := Try.zeroValue0
  t4 := Try.underlying4
  a4 := Try.isAgg4
  z4 := Try.sizeOf4
  v4 := Try.zeroValue4
  t23 := Try.underlying56
  a23 := Try.isAgg56
  z23 := Try.sizeOf56
  v23 := Try.zeroValue56
  t26 := Try.underlying9
  a26 := Try.isAgg9
  z26 := Try.sizeOf9
  v26 := Try.zeroValue9
  t27 := Try.underlying90
  a27 := Try.isAgg90
  z27 := Try.sizeOf90
  v27 := Try.zeroValue90
  t28 := Try.underlying91
  a28 := Try.isAgg91
  z28 := Try.sizeOf91
  v28 := Try.zeroValue91
  t33 := Try.underlying50
  a33 := Try.isAgg50
  z33 := Try.sizeOf50
  v33 := Try.zeroValue50 }
def sortedRen : Ren := ⟨fun | 6 => 42 | 8 => 53 | 9 => 29 | 11 => 76 | n => n, fun | 0 => 0 | 24 => 33 | 26 => 9 | 28 => 91 | 33 => 50 | n => n, fun n => n⟩
theorem sortedLays : SlLaysZ.n6 Try.prog sortedRen := {
  mixed := by kernel_rfl
  f6 := ⟨ "slices.Sorted[string]", by decide, Try.func42.trans (congrArg some (by kernel_rfl))⟩
  f8 := ⟨ "slices.Collect[string]", by decide, Try.func53.trans (congrArg some (by kernel_rfl))⟩
  f11 := ⟨ "slices.AppendSeq[[]string,string]", by decide, Try.func76.trans (congrArg some (by kernel_rfl))⟩
  t0 := Try.underlying0
  a0 := Try.isAgg0
  z0 := Try.sizeOf0
  v0 := Try.zeroValue0
  t24 := Try.underlying33
  a24 := Try.isAgg33
  z24 := Try.sizeOf33
  v24 := Try.zeroValue33
  t26 := Try.underlying9
  a26 := Try.isAgg9
  z26 := Try.sizeOf9
  v26 := Try.zeroValue9
  t28 := Try.underlying91
  a28 := Try.isAgg91
  z28 := Try.sizeOf91
  v28 := Try.zeroValue91
  i26 := by kernel_rfl }
theorem lays_sort (m : Nat) : AnyZ.SortsIn Try.prog sortedRen Fence.wide m :=
  ⟨fun blk off cap ss W hH hblk hsz => callsIn_wide.2 (AnyM.slices_Sort_string sortLays blk off cap ss W hH hblk hsz), fun p cap W => callsIn_wide.2 (AnyM.slices_Sort_string_none sortLays p cap W)⟩
theorem keys_any (b : Nat) (W : World) : Calls Try.prog 43 #[.map (some b)] W fun e w' => e = .returned (.func (.func 54) #[] #[.pointer (some ⟨W.heap.size, 0, none⟩)]) ∧ w' = W.alloc (.cells #[.map (some b)] 56) :=
  (callsIn_wide (n := 5)).1 (AnyZ.keys_in keysLays Fence.wide 5 trivial rfl (some b) W)
set_option maxHeartbeats 1000000 in
theorem sorted_any (b nn : Nat) (D0 : DataW Unit) (R : Value → Option (DataW Unit × List MemPlace)) (w : World) (hown : w.ownsMap Try.prog 9 R b nn D0) (hsz : Maps.size D0 ≤ 100000) :
    Calls Try.prog 42 #[.func (.func 54) #[] #[.pointer (some ⟨w.heap.size, 0, none⟩)]] (w.alloc (.cells #[.map (some b)] 56)) fun e w' =>
      ∃ (v : Value) (ss : List (List UInt8)), e = .returned v ∧ ss.Perm (strKeys D0) ∧ w'.ownsRow (w.heap.size + 1) 9 1 v ss.length ((ss.mergeSort (fun x y => decide (x ≤ y))).map encStr) ∧ Below (w.heap.size + 1) (w.alloc (.cells #[.map (some b)] 56)) w' := by
  have hlt := hown.lt
  have gives : SeqGives Fence.wide 2 Try.prog 54 #[.pointer (some ⟨w.heap.size, 0, none⟩)] encStr (fun ss => ss.Perm (strKeys D0)) (Maps.size D0) (w.alloc (.cells #[.map (some b)] 56)) := by
    refine AnyZ.keys_gives (ρ := keysRen) (R := R) { keysLays with } Fence.wide _ trivial rfl (by omega) w.heap.size b nn D0 _ (by simp) (by simp) ?_
    obtain ⟨es, clock, h1, h2, h3, h4⟩ := hown
    exact ⟨es, clock, (Below.heap_alloc _ _ b hlt).trans h1, h2, h3, h4⟩
  have key := (callsIn_wide (n := 5)).1 (AnyZ.sorted_in sortedLays Fence.wide 5 trivial trivial trivial trivial rfl (by omega) (lays_sort _) (enters_of Try.func29 (by kernel_rfl) rfl) 54 #[.pointer (some ⟨w.heap.size, 0, none⟩)] trivial (enters_of Try.func54 (by kernel_rfl) rfl) _ _ (by unfold maxLen; omega) (by omega) _ gives)
  refine key.mono ?_
  rintro e w' ⟨v, ss, he, hp, hrow, _, hb⟩
  rw [World.size_alloc] at hrow hb
  exact ⟨v, ss, he, hp, hrow, hb⟩
end Go.Proofs.Ytdkcjjbnoeediaa.Mani
