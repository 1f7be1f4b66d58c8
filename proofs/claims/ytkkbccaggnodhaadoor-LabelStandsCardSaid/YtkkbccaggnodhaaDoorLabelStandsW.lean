/-
  The walk of the law LabelStands: it returns true, and leaves all memory that was there as it was. Condition: the two tables of the library hold what its text lays in them.
-/
import Derived.Test.YtkkbccaggnodhaaDoorLabelCmpR
import Derived.Test.YtkkbccaggnodhaaDoorLabelAwake
namespace Go.Proofs.YtkkbccaggnodhaaDoor.Label
open Go.RowKit Go.Lib
set_option linter.unusedVariables false
set_option maxRecDepth 100000 in
theorem stands_skip (a b : ByteArray) (w : World) (h : ¬ (a.size ≤ 3000 ∧ b.size ≤ 3000)) (ha : (a.size : Int) ≤ 9223372036854775807) (hb : (b.size : Int) ≤ 9223372036854775807) :
    Calls Tryd.prog 3 #[.string a, .string b] w fun e w' => e = .returned (.bool true) ∧ Below w.heap.size w w' := by
  have HA := hide awake_any
  by_cases h1 : 3000 < a.size
  · clear h
    go_enter Tryd.func3, Tryd.ntmps3
    go_wp2_with (first
      | (go_at_call 5
         refine (HA.out _).mono ?_
         rintro e w3 ⟨rfl, hb3⟩))
    go_ret
    exact ⟨rfl, hb3⟩
  · have h2 : 3000 < b.size := by omega
    clear h
    go_enter Tryd.func3, Tryd.ntmps3
    go_wp2_with (first
      | (go_at_call 5
         refine (HA.out _).mono ?_
         rintro e w3 ⟨rfl, hb3⟩))
    go_ret
    exact ⟨rfl, hb3⟩
set_option maxHeartbeats 1600000 in
set_option maxRecDepth 100000 in
theorem stands_any (a b : ByteArray) (w : World) (ha : a.size ≤ 3000) (hb : b.size ≤ 3000) (hT : Tabs w) :
    Calls Tryd.prog 3 #[.string a, .string b] w fun e w' => e = .returned (.bool true) ∧ Below w.heap.size w w' := by
  have HA := hide awake_any
  have H1 := hide (fun wx h => compare_any a b wx (by omega) (by omega) h)
  have H2 := hide (fun wx => refCompare_any a b wx (by omega) (by omega))
  have H3 := hide (fun wx h => compare_any b a wx (by omega) (by omega) h)
  have H5 := hide (fun wx h => compare_any a a wx (by omega) (by omega) h)
  rw [cmpL_self] at H5
  have hs := cmpL_swap (runes a 0) (runes b 0)
  rw [hs] at H3
  have hr := cmpL_range (runes a 0) (runes b 0)
  clear hs
  generalize cmpL (runes a 0) (runes b 0) = C at *
  have HT := hide hT
  clear hT
  rcases hr with rfl | rfl | rfl
  · go_enter Tryd.func3, Tryd.ntmps3
    go_wp2_with (first
      | (go_at_call 6
         refine (H5.out w4 (HT.out.below c4)).mono ?_
         rintro e w5 ⟨rfl, hb5⟩
         have c5 : Below w.heap.size w w5 := c4.trans (hb5.mono c4.size))
      | (go_at_call 6
         refine (H3.out w2 (HT.out.below c2)).mono ?_
         rintro e w3 ⟨rfl, hb3⟩
         have c3 : Below w.heap.size w w3 := c2.trans (hb3.mono c2.size))
      | (go_at_call 6
         refine (H1.out w HT.out).mono ?_
         rintro e w1 ⟨rfl, c1⟩)
      | (go_at_call 7
         refine (H2.out w3).mono ?_
         rintro e w4 ⟨rfl, hb4⟩
         have c4 : Below w.heap.size w w4 := c3.trans (hb4.mono c3.size))
      | (go_at_call 7
         refine (H2.out w1).mono ?_
         rintro e w2 ⟨rfl, hb2⟩
         have c2 : Below w.heap.size w w2 := c1.trans (hb2.mono c1.size))
      | (go_at_call 5
         refine (HA.out w5).mono ?_
         rintro e w6 ⟨rfl, hb6⟩
         have c6 : Below w.heap.size w w6 := c5.trans (hb6.mono c5.size)))
    go_ret
    exact ⟨rfl, c6⟩
  · go_enter Tryd.func3, Tryd.ntmps3
    go_wp2_with (first
      | (go_at_call 6
         refine (H5.out w4 (HT.out.below c4)).mono ?_
         rintro e w5 ⟨rfl, hb5⟩
         have c5 : Below w.heap.size w w5 := c4.trans (hb5.mono c4.size))
      | (go_at_call 6
         refine (H3.out w2 (HT.out.below c2)).mono ?_
         rintro e w3 ⟨rfl, hb3⟩
         have c3 : Below w.heap.size w w3 := c2.trans (hb3.mono c2.size))
      | (go_at_call 6
         refine (H1.out w HT.out).mono ?_
         rintro e w1 ⟨rfl, c1⟩)
      | (go_at_call 7
         refine (H2.out w3).mono ?_
         rintro e w4 ⟨rfl, hb4⟩
         have c4 : Below w.heap.size w w4 := c3.trans (hb4.mono c3.size))
      | (go_at_call 7
         refine (H2.out w1).mono ?_
         rintro e w2 ⟨rfl, hb2⟩
         have c2 : Below w.heap.size w w2 := c1.trans (hb2.mono c1.size))
      | (go_at_call 5
         refine (HA.out w5).mono ?_
         rintro e w6 ⟨rfl, hb6⟩
         have c6 : Below w.heap.size w w6 := c5.trans (hb6.mono c5.size)))
    go_ret
    exact ⟨rfl, c6⟩
  · go_enter Tryd.func3, Tryd.ntmps3
    go_wp2_with (first
      | (go_at_call 6
         refine (H5.out w4 (HT.out.below c4)).mono ?_
         rintro e w5 ⟨rfl, hb5⟩
         have c5 : Below w.heap.size w w5 := c4.trans (hb5.mono c4.size))
      | (go_at_call 6
         refine (H3.out w2 (HT.out.below c2)).mono ?_
         rintro e w3 ⟨rfl, hb3⟩
         have c3 : Below w.heap.size w w3 := c2.trans (hb3.mono c2.size))
      | (go_at_call 6
         refine (H1.out w HT.out).mono ?_
         rintro e w1 ⟨rfl, c1⟩)
      | (go_at_call 7
         refine (H2.out w3).mono ?_
         rintro e w4 ⟨rfl, hb4⟩
         have c4 : Below w.heap.size w w4 := c3.trans (hb4.mono c3.size))
      | (go_at_call 7
         refine (H2.out w1).mono ?_
         rintro e w2 ⟨rfl, hb2⟩
         have c2 : Below w.heap.size w w2 := c1.trans (hb2.mono c1.size))
      | (go_at_call 5
         refine (HA.out w5).mono ?_
         rintro e w6 ⟨rfl, hb6⟩
         have c6 : Below w.heap.size w w6 := c5.trans (hb6.mono c5.size)))
    go_ret
    exact ⟨rfl, c6⟩
end Go.Proofs.YtkkbccaggnodhaaDoor.Label
