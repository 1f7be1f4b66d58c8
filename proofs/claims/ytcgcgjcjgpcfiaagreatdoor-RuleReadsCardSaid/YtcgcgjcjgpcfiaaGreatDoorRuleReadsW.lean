/-
  The walk of the law RuleReads. Condition: the tables hold what the texts lay in them.
-/
import Derived.Test.YtcgcgjcjgpcfiaaGreatDoorRuleAwake
import Derived.Test.YtcgcgjcjgpcfiaaGreatDoorRuleRefRead
namespace Go.Proofs.YtcgcgjcjgpcfiaaGreatDoor.Rule
open Go.RowKit Go.Lib Go.Proofs.YtcgcgjcjgpcfiaaGreatDoor.Span
open Go.Proofs.YtcgcgjcjgpcfiaaGreatDoor.Ver (Tabs)
set_option linter.unusedVariables false
theorem toldSet_len (l : List UInt8) : (toldSet (told l)).length ≤ 6 := by
  unfold told
  split
  · simp [toldSet]
  · split
    · simp [toldSet]
    · split
      · simp [toldSet]
      · rename_i h; simp only [toldSet]; omega
theorem setO_len (o : Option S) : (setO o).length ≤ 1 := by
  cases o with
  | none => simp [setO]
  | some i => exact setOf_len [i]
set_option maxHeartbeats 2000000 in
set_option maxRecDepth 100000 in
theorem reads_walk (s t : List UInt8) (w : World) (hs : s.length ≤ 3000) (ht : t.length ≤ 3000) (hT : Tabs w) :
    Calls Tryz.prog 3 #[.string (str s), .string (str t)] w fun e w' => e = .returned (.bool true) ∧ Below w.heap.size w w' := by
  have hz1 : (str s).size ≤ 3000 := by rw [str_size]; exact hs
  have hz2 : (str t).size ≤ 3000 := by rw [str_size]; exact ht
  have H1 := hide (fun wx (hb : Below w.heap.size w wx) => Read_any s wx (by omega) (hT.below hb))
  have H2 := hide (fun wx => refRead_any s wx (by omega))
  have H3 := hide (fun wx (hb : Below w.heap.size w wx) => cmp_on t wx (by omega) (hT.below hb))
  have H4 := hide (fun wx => refCmp_any t wx (by omega))
  have HW := hide (fun wx (hb : Below w.heap.size w wx) => awake_any wx (hT.below hb))
  have l1 := toldSet_len s
  have l2 := setO_len (cmpI t)
  unfold MakesR at H1 H2
  unfold MakesB at H3 H4
  unfold Tells at HW
  clear hT hs ht
  generalize toldSet (told s) = L at *
  generalize toldAt (told s) = X at *
  generalize toldErr (told s) = E at *
  generalize setO (cmpI t) = M at *
  generalize (cmpI t).isSome = f at *
  generalize str s = S1 at *
  generalize str t = S2 at *
  have hbw : Below w.heap.size w w := Below.refl _ _
  go_enter Tryz.func3, Tryz.ntmps3
  go_wp2_with (first
    | (go_at_call 5
       refine (H1.out _ hbw).mono ?_
       rintro e w1 ⟨A1, n1, c1, rfl, h1, hbx⟩
       have hbw := hbw.trans (hbx.mono hbw.size))
    | (go_at_call 6
       refine (H2.out _).mono ?_
       rintro e w2 ⟨A2, n2, c2, rfl, h2, hbx⟩
       have h1 := h1.on hbx
       have hbw := hbw.trans (hbx.mono hbw.size))
    | (go_at_call 7
       refine (H3.out _ hbw).mono ?_
       rintro e w3 ⟨A3, n3, c3, rfl, h3, hbx⟩
       have h1 := h1.on hbx
       have h2 := h2.on hbx
       have hbw := hbw.trans (hbx.mono hbw.size))
    | (go_at_call 8
       refine (H4.out _).mono ?_
       rintro e w4 ⟨A4, n4, c4, rfl, h4, hbx⟩
       have h1 := h1.on hbx
       have h2 := h2.on hbx
       have h3 := h3.on hbx
       have hbw := hbw.trans (hbx.mono hbw.size))
    | (go_at_call_of 9 (Value.slice A1 n1 c1)
       go_at_call_of 9 (Value.slice A2 n2 c2)
       refine (refSame_yes h1 h2 (by have := h1.len; omega) rfl).mono ?_
       rintro e w5 ⟨rfl, hbx⟩
       have h3 := h3.on hbx
       have h4 := h4.on hbx
       have hbw := hbw.trans (hbx.mono hbw.size))
    | (go_at_call_of 9 (Value.slice A3 n3 c3)
       refine (refSame_yes h3 h4 (by have := h3.len; omega) rfl).mono ?_
       rintro e w6 ⟨rfl, hbx⟩
       have hbw := hbw.trans (hbx.mono hbw.size))
    | (go_at_call 4
       refine (HW.out _ hbw).mono ?_
       rintro e w7 ⟨rfl, hbx⟩
       have hbw := hbw.trans (hbx.mono hbw.size)))
  go_ret
  exact ⟨rfl, hbw⟩
set_option maxHeartbeats 1000000 in
set_option maxRecDepth 100000 in
theorem reads_skip (s t : ByteArray) (w : World) (hs : s.size ≤ 9223372036854775807) (ht : t.size ≤ 9223372036854775807) (h : 3000 < s.size ∨ 3000 < t.size) (hT : Tabs w) :
    Calls Tryz.prog 3 #[.string s, .string t] w fun e w' => e = .returned (.bool true) ∧ Below w.heap.size w w' := by
  have HW := hide (awake_any w hT)
  unfold Tells at HW
  clear hT
  by_cases h1 : 3000 < s.size
  · clear h
    go_enter Tryz.func3, Tryz.ntmps3
    go_wp2_with (go_at_call 4
                 refine HW.out.mono ?_
                 rintro e w7 ⟨rfl, hbx⟩)
    go_ret
    exact ⟨rfl, hbx⟩
  · have h2 : 3000 < t.size := by omega
    clear h
    go_enter Tryz.func3, Tryz.ntmps3
    go_wp2_with (go_at_call 4
                 refine HW.out.mono ?_
                 rintro e w7 ⟨rfl, hbx⟩)
    go_ret
    exact ⟨rfl, hbx⟩
end Go.Proofs.YtcgcgjcjgpcfiaaGreatDoor.Rule
