/-
  The contract of the document's Open of what is not opened, and that of awake: it returns true. Condition: no more than 1,000,000 bytes.
-/
import Derived.Test.YtbckpcofcgapdaaStampOpen
namespace Go.Proofs.Ytbckpcofcgapdaa.Stamp
open Go.RowKit
set_option linter.unusedVariables false
theorem refOpen_no (l : List UInt8) (w : World) (hm : l.length ≤ 1000000) (ho : ¬ opens l) :
   Calls Try.prog 16 #[.string (str l)] w fun e w' => e = .returned (.tuple #[.string (str []), .bool false]) ∧ Below w.heap.size w w' := by
  have hsz : (str l).size = l.length := str_size l
  by_cases h4 : l.length < 4
  · have hsz1 : (str l).size < 4 := by omega
    clear hsz
    go_enter Try.func16, Try.ntmps16
    go_wp2
    go_ret2
    exact ⟨rfl, Below.refl _ _⟩
  · obtain ⟨m, hn⟩ : ∃ m, l.length = m + 4 := ⟨l.length - 4, by omega⟩
    have hs := mt (opens_seal l (by omega)).2 ho
    rw [hn, Nat.add_sub_cancel] at hs
    have HS := hide (refSeal_any (l.take m) w (by rw [List.length_take]; omega))
    have hne : ¬ str (seal_ (l.take m)) = str l := by rw [str_inj]; exact hs
    obtain ⟨t, ht⟩ : ∃ t, t = seal_ (l.take m) := ⟨_, rfl⟩
    rw [← ht] at HS hne hs
    clear ht
    have hse := str_extract l 0 m
    rw [List.drop_zero, Nat.sub_zero] at hse
    have hsz2 : (str l).size = m + 4 := by omega
    have hsz1 : m ≤ (str l).size := by omega
    have hm2 : m ≤ 1000000 := by omega
    have hst := str_toList
    have hs2 : ¬ l = t := fun h => hs h.symm
    have hsb : (t == l) = false := by simpa using hs
    clear hn ho hsz h4
    have Hsz := hide hsz2
    go_enter Try.func16, Try.ntmps16
    go_wp2_with (first
      | (go_at_call 21
         refine HS.out.mono ?_
         rintro e w1 ⟨rfl, hb1⟩))
    go_ret2
    exact ⟨rfl, hb1⟩
theorem sum_a : sum [97] = 3826002220 := by decide +kernel
theorem seal_nil : seal_ [] = [129, 28, 157, 197] := by decide +kernel
theorem opens_nil : opens [129, 28, 157, 197] := by rw [← seal_nil]; exact seal_opens []
end Go.Proofs.Ytbckpcofcgapdaa.Stamp
