/-
  The walk of the law RuleShows, and the document's plain. Condition: the tables hold what the texts lay in them.
-/
import Derived.Test.YtcgcgjcjgpcfiaaDoorRuleAwake
namespace Go.Proofs.YtcgcgjcjgpcfiaaDoor.Rule
open Go.RowKit Go.Lib Go.Proofs.YtcgcgjcjgpcfiaaDoor.Span
open Go.Proofs.YtcgcgjcjgpcfiaaDoor.Ver (Tabs)
set_option linter.unusedVariables false
theorem toList_ne {a b : ByteArray} (h : ¬ a = b) : (a.toList == b.toList) = false := Ver.toList_ne h
set_option maxHeartbeats 4000000 in
set_option maxRecDepth 100000 in
theorem shows_walk (A : Option Addr) (n c : Nat) (l : List S) (w : World) (hn : n ≤ 100) (h : SpOn w A n l) (hT : Tabs w) :
    Calls Tryd.prog 3 #[.slice A n c] w fun e w' => e = .returned (.bool true) ∧ Below w.heap.size w w' := by
  have hlen : l.length = n := h.1
  have H1 := hide (Show_any l A n c w h (by omega) hT)
  have H2 := hide (fun wx (hx : SpOn wx A n l) => refShow_any l A n c wx hx (by omega))
  have H3 := hide (fun wx (hx : SpOn wx A n l) => refCheck_on (c := c) hx (by omega))
  have H4 := hide (fun wx (hb : Below w.heap.size w wx) => Read_any (showL l) wx (by have := show_len l; omega) (hT.below hb))
  have HW := hide (fun wx (hb : Below w.heap.size w wx) => awake_any wx (hT.below hb))
  have ht := hide (fun (h1 : isSet (-1) l = true) (h2 : n ≤ 6) => told_show h1 (by omega))
  have h5 : ((str (showL l)).toList == (str (showL l)).toList) = true := beq_self_eq_true _
  clear hT
  unfold Tells MakesR at *
  cases hc : isSet (-1) l with
  | false =>
    rw [hc] at H3
    clear ht H4 hc
    generalize str (showL l) = T at *
    go_enter Tryd.func3, Tryd.ntmps3
    go_wp2_with (first
      | (go_at_call 6
         refine H1.out.mono ?_
         rintro e w1 ⟨rfl, hb1⟩
         have hx1 := h.on hb1)
      | (go_at_call 7
         refine (H2.out _ hx1).mono ?_
         rintro e w2 ⟨rfl, hb2⟩
         have hx2 := hx1.on hb2
         have hb12 := hb1.trans (hb2.mono hb1.size))
      | (go_at_call 8
         refine (H3.out _ hx2).mono ?_
         rintro e w3 ⟨rfl, hb3⟩
         have hb13 := hb12.trans (hb3.mono hb12.size))
      | (go_at_call 5
         refine (HW.out _ hb13).mono ?_
         rintro e w4 ⟨rfl, hb4⟩))
    go_ret
    exact ⟨rfl, hb13.trans (hb4.mono hb13.size)⟩
  | true =>
    rw [hc] at H3
    by_cases h6 : n ≤ 6
    · rw [ht.out hc h6] at H4
      have e1 : toldAt (.ok l) = 0 := rfl
      have e2 : toldErr (.ok l) = 0 := rfl
      have e3 : toldSet (.ok l) = l := rfl
      rw [e1, e2, e3] at H4
      clear ht hc e1 e2 e3
      generalize str (showL l) = T at *
      have hq : ¬ (6 < n) := by omega
      go_enter Tryd.func3, Tryd.ntmps3
      go_wp2_with (first
        | (go_at_call 6
           refine H1.out.mono ?_
           rintro e w1 ⟨rfl, hb1⟩
           have hx1 := h.on hb1)
        | (go_at_call 7
           refine (H2.out _ hx1).mono ?_
           rintro e w2 ⟨rfl, hb2⟩
           have hx2 := hx1.on hb2
           have hb12 := hb1.trans (hb2.mono hb1.size))
        | (go_at_call 8
           refine (H3.out _ hx2).mono ?_
           rintro e w3 ⟨rfl, hb3⟩
           have hx3 := hx2.on hb3
           have hb13 := hb12.trans (hb3.mono hb12.size))
        | (go_at_call 9
           refine (H4.out _ hb13).mono ?_
           rintro e w4 ⟨A4, n4, c4, rfl, hx4, hb4⟩
           have hx34 := hx3.on hb4
           have hb14 := hb13.trans (hb4.mono hb13.size))
        | (go_at_call 10
           refine (refSame_yes hx34 hx4 (by omega) rfl).mono ?_
           rintro e w5 ⟨rfl, hb5⟩
           have hb15 := hb14.trans (hb5.mono hb14.size))
        | (go_at_call 5
           refine (HW.out _ hb15).mono ?_
           rintro e w6 ⟨rfl, hb6⟩))
      go_ret
      exact ⟨rfl, hb15.trans (hb6.mono hb15.size)⟩
    · clear ht H4 hc
      generalize str (showL l) = T at *
      have hq : 6 < n := by omega
      go_enter Tryd.func3, Tryd.ntmps3
      go_wp2_with (first
        | (go_at_call 6
           refine H1.out.mono ?_
           rintro e w1 ⟨rfl, hb1⟩
           have hx1 := h.on hb1)
        | (go_at_call 7
           refine (H2.out _ hx1).mono ?_
           rintro e w2 ⟨rfl, hb2⟩
           have hx2 := hx1.on hb2
           have hb12 := hb1.trans (hb2.mono hb1.size))
        | (go_at_call 8
           refine (H3.out _ hx2).mono ?_
           rintro e w3 ⟨rfl, hb3⟩
           have hb13 := hb12.trans (hb3.mono hb12.size))
        | (go_at_call 5
           refine (HW.out _ hb13).mono ?_
           rintro e w4 ⟨rfl, hb4⟩))
      go_ret
      exact ⟨rfl, hb13.trans (hb4.mono hb13.size)⟩
set_option maxRecDepth 100000 in
theorem shows_skip (A : Option Addr) (n c : Nat) (w : World) (hn : n > 100) (hT : Tabs w) :
    Calls Tryd.prog 3 #[.slice A n c] w fun e w' => e = .returned (.bool true) ∧ Below w.heap.size w w' := by
  have HW := hide (awake_any w hT)
  unfold Tells at *
  go_enter Tryd.func3, Tryd.ntmps3
  go_wp2_with (go_at_call 5
               refine HW.out.mono ?_
               rintro e w4 ⟨rfl, hb4⟩)
  go_ret
  exact ⟨rfl, hb4⟩
end Go.Proofs.YtcgcgjcjgpcfiaaDoor.Rule
