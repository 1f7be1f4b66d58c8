/-
  The walk of SpanSets: any spans, any place. No condition.
-/
import Derived.Test.YtbkbamidkofajaaSpanOn
namespace Go.Proofs.Ytbkbamidkofajaa.Span
open Go Go.RowKit Go.Lib
set_option linter.unusedVariables false
set_option maxHeartbeats 4000000 in
set_option maxRecDepth 100000 in
theorem sets_walk (A0 : Option Addr) (n0 c0 : Nat) (l : List S) (A1 : Option Addr) (n1 c1 : Nat) (m : List S) (p : Int) (w : World) (hn0 : n0 ≤ 100) (hn1 : n1 ≤ 100)
    (h0 : SpOn w A0 n0 l) (h1 : SpOn w A1 n1 m) (hp0 : -9223372036854775808 ≤ p) (hp1 : p ≤ 9223372036854775807) :
    Calls Try.prog 3 #[.slice A0 n0 c0, .slice A1 n1 c1, .int .i64 p] w fun e w' => e = .returned (.bool true) ∧ Below w.heap.size w w' := by
  have h0l : n0 ≤ 1000000001 := by omega
  have h1l : n1 ≤ 1000000001 := by omega
  have hbw : Below w.heap.size w w := Below.refl _ _
  have Hc1 := hide (fun wx (h : SpOn wx A0 n0 l) hn => check_on (c := c0) h hn)
  have Hc2 := hide (fun wx (h : SpOn wx A0 n0 l) hn => refCheck_on (c := c0) h hn)
  have Hs1 := hide (fun wx (h : SpOn wx A0 n0 l) (h' : SpOn wx A1 n1 m) hn hn' => same_on (c := c0) (c' := c1) h h' hn hn')
  have Hs2 := hide (fun wx (h : SpOn wx A0 n0 l) (h' : SpOn wx A1 n1 m) hn hn' => refSame_on (c := c0) (c' := c1) h h' hn hn')
  generalize isSet (-1) l = r at *
  generalize decide (l = m) = q at *
  have g1 : decide ((n0 : Int) > 100) = false := decide_eq_false (by omega)
  have g2 : decide ((n1 : Int) > 100) = false := decide_eq_false (by omega)
  go_enter Try.func3, Try.ntmps3
  go_wp2_with (first
    | (go_at_call 8
       refine (Hc1.out _ h0 h0l).mono ?_
       rintro e wn ⟨rfl, hbx⟩
       try have h0 := SpOn.on h0 hbx
       try have h1 := SpOn.on h1 hbx
       try have h2 := SpOn.on h2 hbx
       try have h3 := SpOn.on h3 hbx
       try have h4 := SpOn.on h4 hbx
       try have h5 := SpOn.on h5 hbx
       try have h6 := SpOn.on h6 hbx
       try have h7 := SpOn.on h7 hbx
       have hbw := hbw.trans (hbx.mono hbw.size))
    | (go_at_call 9
       refine (Hc2.out _ h0 h0l).mono ?_
       rintro e wn ⟨rfl, hbx⟩
       try have h0 := SpOn.on h0 hbx
       try have h1 := SpOn.on h1 hbx
       try have h2 := SpOn.on h2 hbx
       try have h3 := SpOn.on h3 hbx
       try have h4 := SpOn.on h4 hbx
       try have h5 := SpOn.on h5 hbx
       try have h6 := SpOn.on h6 hbx
       try have h7 := SpOn.on h7 hbx
       have hbw := hbw.trans (hbx.mono hbw.size))
    | (go_at_call_of 10 (Value.slice A3 n3 c3)
       refine (refSame_yes h2 h3 (h2.le (nf_set _)) rfl).mono ?_
       rintro e wn ⟨rfl, hbx⟩
       try have h0 := SpOn.on h0 hbx
       try have h1 := SpOn.on h1 hbx
       try have h2 := SpOn.on h2 hbx
       try have h3 := SpOn.on h3 hbx
       try have h4 := SpOn.on h4 hbx
       try have h5 := SpOn.on h5 hbx
       try have h6 := SpOn.on h6 hbx
       try have h7 := SpOn.on h7 hbx
       have hbw := hbw.trans (hbx.mono hbw.size))
    | (go_at_call_of 10 (Value.slice A5 n5 c5)
       refine (refSame_yes h4 h5 (h4.le (by decide)) rfl).mono ?_
       rintro e wn ⟨rfl, hbx⟩
       try have h0 := SpOn.on h0 hbx
       try have h1 := SpOn.on h1 hbx
       try have h2 := SpOn.on h2 hbx
       try have h3 := SpOn.on h3 hbx
       try have h4 := SpOn.on h4 hbx
       try have h5 := SpOn.on h5 hbx
       try have h6 := SpOn.on h6 hbx
       try have h7 := SpOn.on h7 hbx
       have hbw := hbw.trans (hbx.mono hbw.size))
    | (go_at_call_of 10 (Value.slice A7 n7 c7)
       refine (refSame_yes h6 h7 (h6.le (nf_set _)) rfl).mono ?_
       rintro e wn ⟨rfl, hbx⟩
       try have h0 := SpOn.on h0 hbx
       try have h1 := SpOn.on h1 hbx
       try have h2 := SpOn.on h2 hbx
       try have h3 := SpOn.on h3 hbx
       try have h4 := SpOn.on h4 hbx
       try have h5 := SpOn.on h5 hbx
       try have h6 := SpOn.on h6 hbx
       try have h7 := SpOn.on h7 hbx
       have hbw := hbw.trans (hbx.mono hbw.size))
    | (go_at_call_of 10 (Value.slice A1 n1 c1)
       refine (Hs2.out _ h0 h1 h0l h1l).mono ?_
       rintro e wn ⟨rfl, hbx⟩
       try have h0 := SpOn.on h0 hbx
       try have h1 := SpOn.on h1 hbx
       try have h2 := SpOn.on h2 hbx
       try have h3 := SpOn.on h3 hbx
       try have h4 := SpOn.on h4 hbx
       try have h5 := SpOn.on h5 hbx
       try have h6 := SpOn.on h6 hbx
       try have h7 := SpOn.on h7 hbx
       have hbw := hbw.trans (hbx.mono hbw.size))
    | (go_at_call 13
       refine (Hs1.out _ h0 h1 h0l h1l).mono ?_
       rintro e wn ⟨rfl, hbx⟩
       try have h0 := SpOn.on h0 hbx
       try have h1 := SpOn.on h1 hbx
       try have h2 := SpOn.on h2 hbx
       try have h3 := SpOn.on h3 hbx
       try have h4 := SpOn.on h4 hbx
       try have h5 := SpOn.on h5 hbx
       try have h6 := SpOn.on h6 hbx
       try have h7 := SpOn.on h7 hbx
       have hbw := hbw.trans (hbx.mono hbw.size))
    | (go_at_call 11
       refine (of_on h0 (by omega)).mono ?_
       rintro e wn ⟨A2, n2, c2, rfl, h2, hbx⟩
       try have h0 := SpOn.on h0 hbx
       try have h1 := SpOn.on h1 hbx
       try have h3 := SpOn.on h3 hbx
       try have h4 := SpOn.on h4 hbx
       try have h5 := SpOn.on h5 hbx
       try have h6 := SpOn.on h6 hbx
       try have h7 := SpOn.on h7 hbx
       have hbw := hbw.trans (hbx.mono hbw.size))
    | (go_at_call 12
       refine (refOf_on h0 (by omega)).mono ?_
       rintro e wn ⟨A3, n3, c3, rfl, h3, hbx⟩
       try have h0 := SpOn.on h0 hbx
       try have h1 := SpOn.on h1 hbx
       try have h2 := SpOn.on h2 hbx
       try have h4 := SpOn.on h4 hbx
       try have h5 := SpOn.on h5 hbx
       try have h6 := SpOn.on h6 hbx
       try have h7 := SpOn.on h7 hbx
       have hbw := hbw.trans (hbx.mono hbw.size))
    | (go_at_call 14
       refine (makes_of' (all_any _)).mono ?_
       rintro e wn ⟨A4, n4, c4, rfl, h4, hbx⟩
       try have h0 := SpOn.on h0 hbx
       try have h1 := SpOn.on h1 hbx
       try have h2 := SpOn.on h2 hbx
       try have h3 := SpOn.on h3 hbx
       try have h5 := SpOn.on h5 hbx
       try have h6 := SpOn.on h6 hbx
       try have h7 := SpOn.on h7 hbx
       have hbw := hbw.trans (hbx.mono hbw.size))
    | (go_at_call 15
       refine (makes_of' (refAll_any _)).mono ?_
       rintro e wn ⟨A5, n5, c5, rfl, h5, hbx⟩
       try have h0 := SpOn.on h0 hbx
       try have h1 := SpOn.on h1 hbx
       try have h2 := SpOn.on h2 hbx
       try have h3 := SpOn.on h3 hbx
       try have h4 := SpOn.on h4 hbx
       try have h6 := SpOn.on h6 hbx
       try have h7 := SpOn.on h7 hbx
       have hbw := hbw.trans (hbx.mono hbw.size))
    | (go_at_call 16
       refine (makes_of (one_any p _ hp0 hp1)).mono ?_
       rintro e wn ⟨A6, n6, c6, rfl, h6, hbx⟩
       try have h0 := SpOn.on h0 hbx
       try have h1 := SpOn.on h1 hbx
       try have h2 := SpOn.on h2 hbx
       try have h3 := SpOn.on h3 hbx
       try have h4 := SpOn.on h4 hbx
       try have h5 := SpOn.on h5 hbx
       try have h7 := SpOn.on h7 hbx
       have hbw := hbw.trans (hbx.mono hbw.size))
    | (go_at_call 17
       refine (makes_of' (refOne_any p _)).mono ?_
       rintro e wn ⟨A7, n7, c7, rfl, h7, hbx⟩
       try have h0 := SpOn.on h0 hbx
       try have h1 := SpOn.on h1 hbx
       try have h2 := SpOn.on h2 hbx
       try have h3 := SpOn.on h3 hbx
       try have h4 := SpOn.on h4 hbx
       try have h5 := SpOn.on h5 hbx
       try have h6 := SpOn.on h6 hbx
       have hbw := hbw.trans (hbx.mono hbw.size))
    | (go_at_call 7
       refine (awake_any _).mono ?_
       rintro e wn ⟨rfl, hbx⟩
       have hbw := hbw.trans (hbx.mono hbw.size)))
  go_ret
  exact ⟨rfl, hbw⟩
set_option maxHeartbeats 4000000 in
set_option maxRecDepth 100000 in
theorem sets_skip (A0 : Option Addr) (n0 c0 : Nat) (A1 : Option Addr) (n1 c1 : Nat) (p : Int) (w : World) (h : n0 > 100 ∨ n1 > 100) :
    Calls Try.prog 3 #[.slice A0 n0 c0, .slice A1 n1 c1, .int .i64 p] w fun e w' => e = .returned (.bool true) ∧ Below w.heap.size w w' := by
  have hbw : Below w.heap.size w w := Below.refl _ _
  by_cases g : n0 > 100
  · go_enter Try.func3, Try.ntmps3
    go_wp2_with (first
      | (go_at_call 7
         refine (awake_any _).mono ?_
         rintro e wn ⟨rfl, hbx⟩
         have hbw := hbw.trans (hbx.mono hbw.size)))
    go_ret
    exact ⟨rfl, hbw⟩
  · have g2 : n1 > 100 := by omega
    go_enter Try.func3, Try.ntmps3
    go_wp2_with (first
      | (go_at_call 7
         refine (awake_any _).mono ?_
         rintro e wn ⟨rfl, hbx⟩
         have hbw := hbw.trans (hbx.mono hbw.size)))
    go_ret
    exact ⟨rfl, hbw⟩
end Go.Proofs.Ytbkbamidkofajaa.Span
