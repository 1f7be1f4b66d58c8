/-
  The walk of SpanHas: any two sets, any place. No condition.
-/
import Derived.Test.YtbkbamidkofajaaSpanOn
namespace Go.Proofs.Ytbkbamidkofajaa.Span
open Go Go.RowKit Go.Lib
set_option linter.unusedVariables false
theorem union_has {a b : List S} {p : Int} (h0 : 0 ≤ p) (h1 : p < 1000000000) : has (unionS a b) p = (has a p || has b p) := nf_in _ h0 h1
theorem meet_has {a b : List S} {p : Int} (h0 : 0 ≤ p) (h1 : p < 1000000000) : has (meetS a b) p = (has a p && has b p) := nf_in _ h0 h1
theorem not_has {a : List S} {p : Int} (h0 : 0 ≤ p) (h1 : p < 1000000000) : has (notS a) p = !has a p := nf_in _ h0 h1
theorem less_one {a : List S} {p : Int} (h0 : 0 ≤ p) (h1 : p < 1000000000) : decide (lessS (oneS p) a = []) = has a p := by
  rw [oneS_some h0 h1, Bool.eq_iff_iff, decide_eq_true_iff]
  unfold lessS
  rw [nf_nil]
  constructor
  · intro h
    have := h p h0 h1
    unfold kept at this
    rw [has_one] at this
    cases hh : has a p with
    | true => rfl
    | false => rw [hh] at this; simp at this; omega
  · intro h q q0 q1
    unfold kept
    rw [has_one]
    by_cases e : q = p
    · subst e; rw [h]; simp
    · have : (decide ((p, p + 1).1 ≤ q) && decide (q < (p, p + 1).2)) = false := by simp; omega
      rw [this]; rfl
set_option maxHeartbeats 4000000 in
set_option maxRecDepth 100000 in
theorem has_walk (A0 : Option Addr) (n0 c0 : Nat) (a : List S) (A1 : Option Addr) (n1 c1 : Nat) (b : List S) (p : Int) (w : World) (hn0 : n0 ≤ 60) (hn1 : n1 ≤ 60)
    (h0 : SpOn w A0 n0 a) (h1 : SpOn w A1 n1 b) (hp0 : 0 ≤ p) (hp1 : p < 1000000000) (hsa : isSet (-1) a = true) (hsb : isSet (-1) b = true) :
    Calls Try.prog 6 #[.slice A0 n0 c0, .slice A1 n1 c1, .int .i64 p] w fun e w' => e = .returned (.bool true) ∧ Below w.heap.size w w' := by
  have hbw : Below w.heap.size w w := Below.refl _ _
  have n0l : n0 ≤ 1000000001 := by omega
  have n1l : n1 ≤ 1000000001 := by omega
  have sa := hide hsa
  have sb := hide hsb
  have Hca := hide (fun wx (h : SpOn wx A0 n0 a) => check_yes (c := c0) h hsa)
  have Hcb := hide (fun wx (h : SpOn wx A1 n1 b) => check_yes (c := c1) h hsb)
  have Ha := hide (fun wx (h : SpOn wx A0 n0 a) => has_on (c := c0) p h (by omega))
  have Hb := hide (fun wx (h : SpOn wx A1 n1 b) => has_on (c := c1) p h (by omega))
  have Hu := hide (fun wx {A n c} (h : SpOn wx A n (unionS a b)) => has_on (c := c) p h (h.le (nf_set _)))
  have Hm := hide (fun wx {A n c} (h : SpOn wx A n (meetS a b)) => has_on (c := c) p h (h.le (nf_set _)))
  have Hn := hide (fun wx {A n c} (h : SpOn wx A n (notS a)) => has_on (c := c) p h (h.le (nf_set _)))
  have Hw := hide (fun wx {A n c} (h : SpOn wx A n (oneS p)) (h' : SpOn wx A0 n0 a) => within_on (c := c) (c' := c0) h h' (nf_set _) hsa)
  have Ho := hide (fun wx => makes_of (one_any p wx (by omega) (by omega)))
  have Hc := hide (fun wx {A n c} (h : SpOn wx A n (oneS p)) => count_on (c := c) h (nf_set _))
  rw [union_has hp0 hp1] at Hu
  rw [meet_has hp0 hp1] at Hm
  rw [not_has hp0 hp1] at Hn
  rw [less_one hp0 hp1] at Hw
  have ec : count (oneS p) = 1 := by rw [oneS_some hp0 hp1]; simp [count]; omega
  rw [ec] at Hc
  clear ec hsa hsb
  generalize has a p = x at *
  generalize has b p = y at *
  cases x <;> cases y <;> (
    go_enter Try.func6, Try.ntmps6
    go_wp2_with (first
      | (go_at_call_of 8 (Value.slice A1 n1 c1)
         refine (Hcb.out _ h1).mono ?_
         rintro e wn ⟨rfl, hbx⟩
         try have h0 := SpOn.on h0 hbx
         try have h1 := SpOn.on h1 hbx
         try have h2 := SpOn.on h2 hbx
         try have h3 := SpOn.on h3 hbx
         try have h4 := SpOn.on h4 hbx
         try have h5 := SpOn.on h5 hbx
         try have h9 := SpOn.on h9 hbx
         have hbw := hbw.trans (hbx.mono hbw.size))
      | (go_at_call_of 8 (Value.slice A0 n0 c0)
         refine (Hca.out _ h0).mono ?_
         rintro e wn ⟨rfl, hbx⟩
         try have h0 := SpOn.on h0 hbx
         try have h1 := SpOn.on h1 hbx
         try have h2 := SpOn.on h2 hbx
         try have h3 := SpOn.on h3 hbx
         try have h4 := SpOn.on h4 hbx
         try have h5 := SpOn.on h5 hbx
         try have h9 := SpOn.on h9 hbx
         have hbw := hbw.trans (hbx.mono hbw.size))
      | (go_at_call_of 20 (Value.slice A3 n3 c3)
         refine (Hu.out _ h3).mono ?_
         rintro e wn ⟨rfl, hbx⟩
         try have h0 := SpOn.on h0 hbx
         try have h1 := SpOn.on h1 hbx
         try have h2 := SpOn.on h2 hbx
         try have h3 := SpOn.on h3 hbx
         try have h4 := SpOn.on h4 hbx
         try have h5 := SpOn.on h5 hbx
         try have h9 := SpOn.on h9 hbx
         have hbw := hbw.trans (hbx.mono hbw.size))
      | (go_at_call_of 20 (Value.slice A4 n4 c4)
         refine (Hm.out _ h4).mono ?_
         rintro e wn ⟨rfl, hbx⟩
         try have h0 := SpOn.on h0 hbx
         try have h1 := SpOn.on h1 hbx
         try have h2 := SpOn.on h2 hbx
         try have h3 := SpOn.on h3 hbx
         try have h4 := SpOn.on h4 hbx
         try have h5 := SpOn.on h5 hbx
         try have h9 := SpOn.on h9 hbx
         have hbw := hbw.trans (hbx.mono hbw.size))
      | (go_at_call_of 20 (Value.slice A5 n5 c5)
         refine (Hn.out _ h5).mono ?_
         rintro e wn ⟨rfl, hbx⟩
         try have h0 := SpOn.on h0 hbx
         try have h1 := SpOn.on h1 hbx
         try have h2 := SpOn.on h2 hbx
         try have h3 := SpOn.on h3 hbx
         try have h4 := SpOn.on h4 hbx
         try have h5 := SpOn.on h5 hbx
         try have h9 := SpOn.on h9 hbx
         have hbw := hbw.trans (hbx.mono hbw.size))
      | (go_at_call_of 20 (Value.slice A1 n1 c1)
         refine (Hb.out _ h1).mono ?_
         rintro e wn ⟨rfl, hbx⟩
         try have h0 := SpOn.on h0 hbx
         try have h1 := SpOn.on h1 hbx
         try have h2 := SpOn.on h2 hbx
         try have h3 := SpOn.on h3 hbx
         try have h4 := SpOn.on h4 hbx
         try have h5 := SpOn.on h5 hbx
         try have h9 := SpOn.on h9 hbx
         have hbw := hbw.trans (hbx.mono hbw.size))
      | (go_at_call_of 20 (Value.slice A0 n0 c0)
         refine (Ha.out _ h0).mono ?_
         rintro e wn ⟨rfl, hbx⟩
         try have h0 := SpOn.on h0 hbx
         try have h1 := SpOn.on h1 hbx
         try have h2 := SpOn.on h2 hbx
         try have h3 := SpOn.on h3 hbx
         try have h4 := SpOn.on h4 hbx
         try have h5 := SpOn.on h5 hbx
         try have h9 := SpOn.on h9 hbx
         have hbw := hbw.trans (hbx.mono hbw.size))
      | (go_at_call 16
         refine (Ho.out _).mono ?_
         rintro e wn ⟨A9, n9, c9, rfl, h9, hbx⟩
         try have h0 := SpOn.on h0 hbx
         try have h1 := SpOn.on h1 hbx
         try have h2 := SpOn.on h2 hbx
         try have h3 := SpOn.on h3 hbx
         try have h4 := SpOn.on h4 hbx
         try have h5 := SpOn.on h5 hbx
         have hbw := hbw.trans (hbx.mono hbw.size))
      | (go_at_call 22
         refine (union_on h0 h1 sa.out sb.out).mono ?_
         rintro e wn ⟨A3, n3, c3, rfl, h3, hbx⟩
         try have h0 := SpOn.on h0 hbx
         try have h1 := SpOn.on h1 hbx
         try have h2 := SpOn.on h2 hbx
         try have h4 := SpOn.on h4 hbx
         try have h5 := SpOn.on h5 hbx
         try have h9 := SpOn.on h9 hbx
         have hbw := hbw.trans (hbx.mono hbw.size))
      | (go_at_call 24
         refine (meet_on h0 h1 sa.out sb.out).mono ?_
         rintro e wn ⟨A4, n4, c4, rfl, h4, hbx⟩
         try have h0 := SpOn.on h0 hbx
         try have h1 := SpOn.on h1 hbx
         try have h2 := SpOn.on h2 hbx
         try have h3 := SpOn.on h3 hbx
         try have h5 := SpOn.on h5 hbx
         try have h9 := SpOn.on h9 hbx
         have hbw := hbw.trans (hbx.mono hbw.size))
      | (go_at_call 26
         refine (not_on h0 sa.out).mono ?_
         rintro e wn ⟨A5, n5, c5, rfl, h5, hbx⟩
         try have h0 := SpOn.on h0 hbx
         try have h1 := SpOn.on h1 hbx
         try have h2 := SpOn.on h2 hbx
         try have h3 := SpOn.on h3 hbx
         try have h4 := SpOn.on h4 hbx
         try have h9 := SpOn.on h9 hbx
         have hbw := hbw.trans (hbx.mono hbw.size))
      | (go_at_call 28
         refine (Hw.out _ h9 h0).mono ?_
         rintro e wn ⟨rfl, hbx⟩
         try have h0 := SpOn.on h0 hbx
         try have h1 := SpOn.on h1 hbx
         try have h2 := SpOn.on h2 hbx
         try have h3 := SpOn.on h3 hbx
         try have h4 := SpOn.on h4 hbx
         try have h5 := SpOn.on h5 hbx
         try have h9 := SpOn.on h9 hbx
         have hbw := hbw.trans (hbx.mono hbw.size))
      | (go_at_call 30
         refine (Hc.out _ h9).mono ?_
         rintro e wn ⟨rfl, hbx⟩
         try have h0 := SpOn.on h0 hbx
         try have h1 := SpOn.on h1 hbx
         try have h2 := SpOn.on h2 hbx
         try have h3 := SpOn.on h3 hbx
         try have h4 := SpOn.on h4 hbx
         try have h5 := SpOn.on h5 hbx
         try have h9 := SpOn.on h9 hbx
         have hbw := hbw.trans (hbx.mono hbw.size))
      | (go_at_call 7
         refine (awake_any _).mono ?_
         rintro e wn ⟨rfl, hbx⟩
         have hbw := hbw.trans (hbx.mono hbw.size)))
    go_ret
    exact ⟨rfl, hbw⟩)
set_option maxHeartbeats 4000000 in
set_option maxRecDepth 100000 in
theorem has_skip (A0 : Option Addr) (n0 c0 : Nat) (a : List S) (A1 : Option Addr) (n1 c1 : Nat) (b : List S) (p : Int) (w : World)
    (h0 : SpOn w A0 n0 a) (h1 : SpOn w A1 n1 b) (h : n0 > 60 ∨ n1 > 60 ∨ isSet (-1) a = false ∨ isSet (-1) b = false ∨ p < 0 ∨ 1000000000 ≤ p) :
    Calls Try.prog 6 #[.slice A0 n0 c0, .slice A1 n1 c1, .int .i64 p] w fun e w' => e = .returned (.bool true) ∧ Below w.heap.size w w' := by
  have hbw : Below w.heap.size w w := Below.refl _ _
  have Hca := hide (fun wx (h : SpOn wx A0 n0 a) (hn : n0 ≤ 60) => check_on (c := c0) h (by omega))
  have Hcb := hide (fun wx (h : SpOn wx A1 n1 b) (hn : n1 ≤ 60) => check_on (c := c1) h (by omega))
  have Hr := hide h
  clear h
  generalize isSet (-1) a = x at *
  generalize isSet (-1) b = y at *
  by_cases g0 : n0 > 60
  · go_enter Try.func6, Try.ntmps6
    go_wp2_with (first
      | (go_at_call 7
         refine (awake_any _).mono ?_
         rintro e wn ⟨rfl, hbx⟩
         have hbw := hbw.trans (hbx.mono hbw.size)))
    go_ret
    exact ⟨rfl, hbw⟩
  · by_cases g1 : n1 > 60
    · go_enter Try.func6, Try.ntmps6
      go_wp2_with (first
        | (go_at_call 7
           refine (awake_any _).mono ?_
           rintro e wn ⟨rfl, hbx⟩
           have hbw := hbw.trans (hbx.mono hbw.size)))
      go_ret
      exact ⟨rfl, hbw⟩
    · have Ca := hide (fun wx h => Hca.out wx h (by omega))
      have Cb := hide (fun wx h => Hcb.out wx h (by omega))
      clear Hca Hcb
      cases x with
      | false =>
        go_enter Try.func6, Try.ntmps6
        go_wp2_with (first
          | (go_at_call_of 8 (Value.slice A1 n1 c1)
             refine (Cb.out _ h1).mono ?_
             rintro e wn ⟨rfl, hbx⟩
             try have h0 := SpOn.on h0 hbx
             try have h1 := SpOn.on h1 hbx
             have hbw := hbw.trans (hbx.mono hbw.size))
          | (go_at_call_of 8 (Value.slice A0 n0 c0)
             refine (Ca.out _ h0).mono ?_
             rintro e wn ⟨rfl, hbx⟩
             try have h0 := SpOn.on h0 hbx
             try have h1 := SpOn.on h1 hbx
             have hbw := hbw.trans (hbx.mono hbw.size))
          | (go_at_call 7
             refine (awake_any _).mono ?_
             rintro e wn ⟨rfl, hbx⟩
             have hbw := hbw.trans (hbx.mono hbw.size)))
        go_ret
        exact ⟨rfl, hbw⟩
      | true =>
        cases y with
        | false =>
          go_enter Try.func6, Try.ntmps6
          go_wp2_with (first
            | (go_at_call_of 8 (Value.slice A1 n1 c1)
               refine (Cb.out _ h1).mono ?_
               rintro e wn ⟨rfl, hbx⟩
               try have h0 := SpOn.on h0 hbx
               try have h1 := SpOn.on h1 hbx
               have hbw := hbw.trans (hbx.mono hbw.size))
            | (go_at_call_of 8 (Value.slice A0 n0 c0)
               refine (Ca.out _ h0).mono ?_
               rintro e wn ⟨rfl, hbx⟩
               try have h0 := SpOn.on h0 hbx
               try have h1 := SpOn.on h1 hbx
               have hbw := hbw.trans (hbx.mono hbw.size))
            | (go_at_call 7
               refine (awake_any _).mono ?_
               rintro e wn ⟨rfl, hbx⟩
               have hbw := hbw.trans (hbx.mono hbw.size)))
          go_ret
          exact ⟨rfl, hbw⟩
        | true =>
          by_cases g2 : p < 0
          · go_enter Try.func6, Try.ntmps6
            go_wp2_with (first
              | (go_at_call_of 8 (Value.slice A1 n1 c1)
                 refine (Cb.out _ h1).mono ?_
                 rintro e wn ⟨rfl, hbx⟩
                 try have h0 := SpOn.on h0 hbx
                 try have h1 := SpOn.on h1 hbx
                 have hbw := hbw.trans (hbx.mono hbw.size))
              | (go_at_call_of 8 (Value.slice A0 n0 c0)
                 refine (Ca.out _ h0).mono ?_
                 rintro e wn ⟨rfl, hbx⟩
                 try have h0 := SpOn.on h0 hbx
                 try have h1 := SpOn.on h1 hbx
                 have hbw := hbw.trans (hbx.mono hbw.size))
              | (go_at_call 7
                 refine (awake_any _).mono ?_
                 rintro e wn ⟨rfl, hbx⟩
                 have hbw := hbw.trans (hbx.mono hbw.size)))
            go_ret
            exact ⟨rfl, hbw⟩
          · have g3 : 1000000000 ≤ p := by
              rcases Hr.out with h | h | h | h | h | h
              · exact absurd h g0
              · exact absurd h g1
              · cases h
              · cases h
              · exact absurd h g2
              · exact h
            go_enter Try.func6, Try.ntmps6
            go_wp2_with (first
              | (go_at_call_of 8 (Value.slice A1 n1 c1)
                 refine (Cb.out _ h1).mono ?_
                 rintro e wn ⟨rfl, hbx⟩
                 try have h0 := SpOn.on h0 hbx
                 try have h1 := SpOn.on h1 hbx
                 have hbw := hbw.trans (hbx.mono hbw.size))
              | (go_at_call_of 8 (Value.slice A0 n0 c0)
                 refine (Ca.out _ h0).mono ?_
                 rintro e wn ⟨rfl, hbx⟩
                 try have h0 := SpOn.on h0 hbx
                 try have h1 := SpOn.on h1 hbx
                 have hbw := hbw.trans (hbx.mono hbw.size))
              | (go_at_call 7
                 refine (awake_any _).mono ?_
                 rintro e wn ⟨rfl, hbx⟩
                 have hbw := hbw.trans (hbx.mono hbw.size)))
            go_ret
            exact ⟨rfl, hbw⟩
end Go.Proofs.Ytbkbamidkofajaa.Span
