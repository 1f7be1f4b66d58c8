/-
  The walk of the law RuleJoins: two rules with a mark, or a blank, between. Condition: the tables hold what the texts lay in them.
-/
import Derived.Test.YtcgcgjcjgpcfiaaDoorRuleAwake
import Derived.Test.YtcgcgjcjgpcfiaaDoorRuleJoinsA
namespace Go.Proofs.YtcgcgjcjgpcfiaaDoor.Rule
open Go.RowKit Go.Lib Go.Proofs.YtcgcgjcjgpcfiaaDoor.Span
open Go.Proofs.YtcgcgjcjgpcfiaaDoor.Ver (Tabs)
set_option linter.unusedVariables false
set_option maxHeartbeats 1000000 in
set_option maxRecDepth 100000 in
theorem joins_p1 (s t : List UInt8) (w : World) (hs : s.length ≤ 9223372036854775807) (ht : t.length ≤ 9223372036854775807) (hT : Tabs w) {a b : List S} (h1 : told s = .ok a) (h2 : told t = .ok b) (h3 : s.length + t.length ≤ 390) (h4 : ¬ 6 < (unionS a b).length) (p1 : plainL s = false)  : Calls Tryd.prog 4 #[.string (str s), .string (str t)] w fun e w' => e = .returned (.bool true) ∧ Below w.heap.size w w' := by
  have hbw : Below w.heap.size w w := Below.refl _ _
  have HW := hide (fun wx (hb : Below w.heap.size w wx) => awake_any wx (hT.below hb))
  obtain ⟨l1, la, _⟩ := told_ok h1
  obtain ⟨l2, lb, _⟩ := told_ok h2
  have H1 := hide (fun wx (hb : Below w.heap.size w wx) => Read_ok h1 wx hs (hT.below hb))
  have H2 := hide (fun wx (hb : Below w.heap.size w wx) => Read_ok h2 wx ht (hT.below hb))
  have z1 : (str s).size ≤ 400 := by rw [str_size]; exact l1
  have z2 : (str t).size ≤ 400 := by rw [str_size]; exact l2
  have z3 : (str s).size + (str t).size ≤ 390 := by rw [str_size, str_size]; exact h3
  have hm := told_mark h1 h2 h3
  rw [← union_nf] at hm
  have k1 : str s ++ (⟨#[124]⟩ : ByteArray) = str (s ++ [124]) := str_append s [124]
  have k2 : str (s ++ [124]) ++ str t = str (s ++ 124 :: t) := by rw [str_append]; simp
  have z4 : (str (s ++ [124])).size ≤ 401 := by rw [str_size]; simp; omega
  have zl : (s ++ 124 :: t).length ≤ 9223372036854775807 := by simp; omega
  rw [if_neg h4] at hm
  have H3 := hide (fun wx (hb : Below w.heap.size w wx) => Read_ok hm wx zl (hT.below hb))
  have HP1 := hide (fun wx => plain_any s wx (by omega))
  have HP2 := hide (fun wx => plain_any t wx (by omega))
  rw [p1] at HP1
  clear hT h1 h2 h3 hm zl HP2 p1
  generalize str (s ++ 124 :: t) = Y at *
  generalize str (s ++ [124]) = X at *
  generalize str s = S1 at *
  generalize str t = S2 at *
  go_enter Tryd.func4, Tryd.ntmps4
  go_wp2_with (first
    | (go_at_call_of 9 (Value.string Y)
       refine (H3.out _ hbw).mono ?_
       rintro e wn ⟨A3, n3, c3, rfl, hu, hbx⟩
       try have hx1 := SpOn.on hx1 hbx
       try have hx2 := SpOn.on hx2 hbx
       try have hu := SpOn.on hu hbx
       try have hU := SpOn.on hU hbx
       try have hm := SpOn.on hm hbx
       try have hM := SpOn.on hM hbx
       have hbw := hbw.trans (hbx.mono hbw.size))
    | (go_at_call_of 9 (Value.string S2)
       refine (H2.out _ hbw).mono ?_
       rintro e wn ⟨A2, n2, c2, rfl, hx2, hbx⟩
       try have hx1 := SpOn.on hx1 hbx
       try have hx2 := SpOn.on hx2 hbx
       try have hu := SpOn.on hu hbx
       try have hU := SpOn.on hU hbx
       try have hm := SpOn.on hm hbx
       try have hM := SpOn.on hM hbx
       have hbw := hbw.trans (hbx.mono hbw.size))
    | (go_at_call_of 9 (Value.string S1)
       refine (H1.out _ hbw).mono ?_
       rintro e wn ⟨A1, n1, c1, rfl, hx1, hbx⟩
       try have hx1 := SpOn.on hx1 hbx
       try have hx2 := SpOn.on hx2 hbx
       try have hu := SpOn.on hu hbx
       try have hU := SpOn.on hU hbx
       try have hm := SpOn.on hm hbx
       try have hM := SpOn.on hM hbx
       have hbw := hbw.trans (hbx.mono hbw.size))
    | (go_at_call 11
       refine (refUnion_on hx1 hx2 (by have := hx1.len; omega) (by have := hx2.len; omega)).mono ?_
       rintro e wn ⟨A4, n4, c4, rfl, hU, hbx⟩
       have hl4 : ¬ (6 < n4) := by rw [hU.len]; exact h4
       try have hx1 := SpOn.on hx1 hbx
       try have hx2 := SpOn.on hx2 hbx
       try have hu := SpOn.on hu hbx
       try have hU := SpOn.on hU hbx
       try have hm := SpOn.on hm hbx
       try have hM := SpOn.on hM hbx
       have hbw := hbw.trans (hbx.mono hbw.size))
    | (go_at_call 10
       refine (refSame_yes hu hU (by have := hu.len; omega) rfl).mono ?_
       rintro e wn ⟨rfl, hbx⟩
       try have hx1 := SpOn.on hx1 hbx
       try have hx2 := SpOn.on hx2 hbx
       try have hu := SpOn.on hu hbx
       try have hU := SpOn.on hU hbx
       try have hm := SpOn.on hm hbx
       try have hM := SpOn.on hM hbx
       have hbw := hbw.trans (hbx.mono hbw.size))
    | (go_at_call_of 12 (Value.string S1)
       refine (HP1.out _).mono ?_
       rintro e wn ⟨rfl, rfl⟩)
    | (go_at_call 5
       refine (HW.out _ hbw).mono ?_
       rintro e wn ⟨rfl, hbx⟩
       try have hx1 := SpOn.on hx1 hbx
       try have hx2 := SpOn.on hx2 hbx
       try have hu := SpOn.on hu hbx
       try have hU := SpOn.on hU hbx
       try have hm := SpOn.on hm hbx
       try have hM := SpOn.on hM hbx
       have hbw := hbw.trans (hbx.mono hbw.size)))
  go_ret
  exact ⟨rfl, hbw⟩
set_option maxHeartbeats 1000000 in
set_option maxRecDepth 100000 in
theorem joins_p2 (s t : List UInt8) (w : World) (hs : s.length ≤ 9223372036854775807) (ht : t.length ≤ 9223372036854775807) (hT : Tabs w) {a b : List S} (h1 : told s = .ok a) (h2 : told t = .ok b) (h3 : s.length + t.length ≤ 390) (h4 : ¬ 6 < (unionS a b).length) (p1 : plainL s = true) (p2 : plainL t = false) : Calls Tryd.prog 4 #[.string (str s), .string (str t)] w fun e w' => e = .returned (.bool true) ∧ Below w.heap.size w w' := by
  have hbw : Below w.heap.size w w := Below.refl _ _
  have HW := hide (fun wx (hb : Below w.heap.size w wx) => awake_any wx (hT.below hb))
  obtain ⟨l1, la, _⟩ := told_ok h1
  obtain ⟨l2, lb, _⟩ := told_ok h2
  have H1 := hide (fun wx (hb : Below w.heap.size w wx) => Read_ok h1 wx hs (hT.below hb))
  have H2 := hide (fun wx (hb : Below w.heap.size w wx) => Read_ok h2 wx ht (hT.below hb))
  have z1 : (str s).size ≤ 400 := by rw [str_size]; exact l1
  have z2 : (str t).size ≤ 400 := by rw [str_size]; exact l2
  have z3 : (str s).size + (str t).size ≤ 390 := by rw [str_size, str_size]; exact h3
  have hm := told_mark h1 h2 h3
  rw [← union_nf] at hm
  have k1 : str s ++ (⟨#[124]⟩ : ByteArray) = str (s ++ [124]) := str_append s [124]
  have k2 : str (s ++ [124]) ++ str t = str (s ++ 124 :: t) := by rw [str_append]; simp
  have z4 : (str (s ++ [124])).size ≤ 401 := by rw [str_size]; simp; omega
  have zl : (s ++ 124 :: t).length ≤ 9223372036854775807 := by simp; omega
  rw [if_neg h4] at hm
  have H3 := hide (fun wx (hb : Below w.heap.size w wx) => Read_ok hm wx zl (hT.below hb))
  have HP1 := hide (fun wx => plain_any s wx (by omega))
  have HP2 := hide (fun wx => plain_any t wx (by omega))
  rw [p1] at HP1
  rw [p2] at HP2
  clear hT h1 h2 h3 hm zl p1 p2
  generalize str (s ++ 124 :: t) = Y at *
  generalize str (s ++ [124]) = X at *
  generalize str s = S1 at *
  generalize str t = S2 at *
  go_enter Tryd.func4, Tryd.ntmps4
  go_wp2_with (first
    | (go_at_call_of 9 (Value.string Y)
       refine (H3.out _ hbw).mono ?_
       rintro e wn ⟨A3, n3, c3, rfl, hu, hbx⟩
       try have hx1 := SpOn.on hx1 hbx
       try have hx2 := SpOn.on hx2 hbx
       try have hu := SpOn.on hu hbx
       try have hU := SpOn.on hU hbx
       try have hm := SpOn.on hm hbx
       try have hM := SpOn.on hM hbx
       have hbw := hbw.trans (hbx.mono hbw.size))
    | (go_at_call_of 9 (Value.string S2)
       refine (H2.out _ hbw).mono ?_
       rintro e wn ⟨A2, n2, c2, rfl, hx2, hbx⟩
       try have hx1 := SpOn.on hx1 hbx
       try have hx2 := SpOn.on hx2 hbx
       try have hu := SpOn.on hu hbx
       try have hU := SpOn.on hU hbx
       try have hm := SpOn.on hm hbx
       try have hM := SpOn.on hM hbx
       have hbw := hbw.trans (hbx.mono hbw.size))
    | (go_at_call_of 9 (Value.string S1)
       refine (H1.out _ hbw).mono ?_
       rintro e wn ⟨A1, n1, c1, rfl, hx1, hbx⟩
       try have hx1 := SpOn.on hx1 hbx
       try have hx2 := SpOn.on hx2 hbx
       try have hu := SpOn.on hu hbx
       try have hU := SpOn.on hU hbx
       try have hm := SpOn.on hm hbx
       try have hM := SpOn.on hM hbx
       have hbw := hbw.trans (hbx.mono hbw.size))
    | (go_at_call 11
       refine (refUnion_on hx1 hx2 (by have := hx1.len; omega) (by have := hx2.len; omega)).mono ?_
       rintro e wn ⟨A4, n4, c4, rfl, hU, hbx⟩
       have hl4 : ¬ (6 < n4) := by rw [hU.len]; exact h4
       try have hx1 := SpOn.on hx1 hbx
       try have hx2 := SpOn.on hx2 hbx
       try have hu := SpOn.on hu hbx
       try have hU := SpOn.on hU hbx
       try have hm := SpOn.on hm hbx
       try have hM := SpOn.on hM hbx
       have hbw := hbw.trans (hbx.mono hbw.size))
    | (go_at_call 10
       refine (refSame_yes hu hU (by have := hu.len; omega) rfl).mono ?_
       rintro e wn ⟨rfl, hbx⟩
       try have hx1 := SpOn.on hx1 hbx
       try have hx2 := SpOn.on hx2 hbx
       try have hu := SpOn.on hu hbx
       try have hU := SpOn.on hU hbx
       try have hm := SpOn.on hm hbx
       try have hM := SpOn.on hM hbx
       have hbw := hbw.trans (hbx.mono hbw.size))
    | (go_at_call_of 12 (Value.string S1)
       refine (HP1.out _).mono ?_
       rintro e wn ⟨rfl, rfl⟩)
    | (go_at_call_of 12 (Value.string S2)
       refine (HP2.out _).mono ?_
       rintro e wn ⟨rfl, rfl⟩)
    | (go_at_call 5
       refine (HW.out _ hbw).mono ?_
       rintro e wn ⟨rfl, hbx⟩
       try have hx1 := SpOn.on hx1 hbx
       try have hx2 := SpOn.on hx2 hbx
       try have hu := SpOn.on hu hbx
       try have hU := SpOn.on hU hbx
       try have hm := SpOn.on hm hbx
       try have hM := SpOn.on hM hbx
       have hbw := hbw.trans (hbx.mono hbw.size)))
  go_ret
  exact ⟨rfl, hbw⟩
set_option maxHeartbeats 1000000 in
set_option maxRecDepth 100000 in
theorem joins_p3 (s t : List UInt8) (w : World) (hs : s.length ≤ 9223372036854775807) (ht : t.length ≤ 9223372036854775807) (hT : Tabs w) {a b : List S} (h1 : told s = .ok a) (h2 : told t = .ok b) (h3 : s.length + t.length ≤ 390) (h4 : ¬ 6 < (unionS a b).length) (p1 : plainL s = true) (p2 : plainL t = true) : Calls Tryd.prog 4 #[.string (str s), .string (str t)] w fun e w' => e = .returned (.bool true) ∧ Below w.heap.size w w' := by
  have hbw : Below w.heap.size w w := Below.refl _ _
  have HW := hide (fun wx (hb : Below w.heap.size w wx) => awake_any wx (hT.below hb))
  obtain ⟨l1, la, _⟩ := told_ok h1
  obtain ⟨l2, lb, _⟩ := told_ok h2
  have H1 := hide (fun wx (hb : Below w.heap.size w wx) => Read_ok h1 wx hs (hT.below hb))
  have H2 := hide (fun wx (hb : Below w.heap.size w wx) => Read_ok h2 wx ht (hT.below hb))
  have z1 : (str s).size ≤ 400 := by rw [str_size]; exact l1
  have z2 : (str t).size ≤ 400 := by rw [str_size]; exact l2
  have z3 : (str s).size + (str t).size ≤ 390 := by rw [str_size, str_size]; exact h3
  have hm := told_mark h1 h2 h3
  rw [← union_nf] at hm
  have k1 : str s ++ (⟨#[124]⟩ : ByteArray) = str (s ++ [124]) := str_append s [124]
  have k2 : str (s ++ [124]) ++ str t = str (s ++ 124 :: t) := by rw [str_append]; simp
  have z4 : (str (s ++ [124])).size ≤ 401 := by rw [str_size]; simp; omega
  have zl : (s ++ 124 :: t).length ≤ 9223372036854775807 := by simp; omega
  rw [if_neg h4] at hm
  have H3 := hide (fun wx (hb : Below w.heap.size w wx) => Read_ok hm wx zl (hT.below hb))
  have HP1 := hide (fun wx => plain_any s wx (by omega))
  have HP2 := hide (fun wx => plain_any t wx (by omega))
  have hbl := told_blank h1 h2 h3 p1 p2
  rw [← meet_nf] at hbl
  have k3 : str s ++ (⟨#[32]⟩ : ByteArray) = str (s ++ [32]) := str_append s [32]
  have k4 : str (s ++ [32]) ++ str t = str (s ++ 32 :: t) := by rw [str_append]; simp
  have z5 : (str (s ++ [32])).size ≤ 401 := by rw [str_size]; simp; omega
  have zk : (s ++ 32 :: t).length ≤ 9223372036854775807 := by simp; omega
  have H5 := hide (fun wx (hb : Below w.heap.size w wx) => Read_ok hbl wx zk (hT.below hb))
  have lm := (told_ok hbl).2.1
  generalize str (s ++ 32 :: t) = Z at *
  generalize str (s ++ [32]) = Q at *
  rw [p1] at HP1
  rw [p2] at HP2
  clear hT h1 h2 h3 hm zl p1 p2 hbl zk
  generalize str (s ++ 124 :: t) = Y at *
  generalize str (s ++ [124]) = X at *
  generalize str s = S1 at *
  generalize str t = S2 at *
  go_enter Tryd.func4, Tryd.ntmps4
  go_wp2_with (first
    | (go_at_call 10
       refine (refSame_yes hm hM (by have := hm.len; omega) rfl).mono ?_
       rintro e wn ⟨rfl, hbx⟩
       try have hx1 := SpOn.on hx1 hbx
       try have hx2 := SpOn.on hx2 hbx
       try have hu := SpOn.on hu hbx
       try have hU := SpOn.on hU hbx
       try have hm := SpOn.on hm hbx
       try have hM := SpOn.on hM hbx
       have hbw := hbw.trans (hbx.mono hbw.size))
    | (go_at_call 13
       refine (refMeet_on hx1 hx2 (by have := hx1.len; omega) (by have := hx2.len; omega)).mono ?_
       rintro e wn ⟨A6, n6, c6, rfl, hM, hbx⟩
       try have hx1 := SpOn.on hx1 hbx
       try have hx2 := SpOn.on hx2 hbx
       try have hu := SpOn.on hu hbx
       try have hU := SpOn.on hU hbx
       try have hm := SpOn.on hm hbx
       try have hM := SpOn.on hM hbx
       have hbw := hbw.trans (hbx.mono hbw.size))
    | (go_at_call_of 9 (Value.string Z)
       refine (H5.out _ hbw).mono ?_
       rintro e wn ⟨A5, n5, c5, rfl, hm, hbx⟩
       try have hx1 := SpOn.on hx1 hbx
       try have hx2 := SpOn.on hx2 hbx
       try have hu := SpOn.on hu hbx
       try have hU := SpOn.on hU hbx
       try have hm := SpOn.on hm hbx
       try have hM := SpOn.on hM hbx
       have hbw := hbw.trans (hbx.mono hbw.size))
    | (go_at_call_of 9 (Value.string Y)
       refine (H3.out _ hbw).mono ?_
       rintro e wn ⟨A3, n3, c3, rfl, hu, hbx⟩
       try have hx1 := SpOn.on hx1 hbx
       try have hx2 := SpOn.on hx2 hbx
       try have hu := SpOn.on hu hbx
       try have hU := SpOn.on hU hbx
       try have hm := SpOn.on hm hbx
       try have hM := SpOn.on hM hbx
       have hbw := hbw.trans (hbx.mono hbw.size))
    | (go_at_call_of 9 (Value.string S2)
       refine (H2.out _ hbw).mono ?_
       rintro e wn ⟨A2, n2, c2, rfl, hx2, hbx⟩
       try have hx1 := SpOn.on hx1 hbx
       try have hx2 := SpOn.on hx2 hbx
       try have hu := SpOn.on hu hbx
       try have hU := SpOn.on hU hbx
       try have hm := SpOn.on hm hbx
       try have hM := SpOn.on hM hbx
       have hbw := hbw.trans (hbx.mono hbw.size))
    | (go_at_call_of 9 (Value.string S1)
       refine (H1.out _ hbw).mono ?_
       rintro e wn ⟨A1, n1, c1, rfl, hx1, hbx⟩
       try have hx1 := SpOn.on hx1 hbx
       try have hx2 := SpOn.on hx2 hbx
       try have hu := SpOn.on hu hbx
       try have hU := SpOn.on hU hbx
       try have hm := SpOn.on hm hbx
       try have hM := SpOn.on hM hbx
       have hbw := hbw.trans (hbx.mono hbw.size))
    | (go_at_call 11
       refine (refUnion_on hx1 hx2 (by have := hx1.len; omega) (by have := hx2.len; omega)).mono ?_
       rintro e wn ⟨A4, n4, c4, rfl, hU, hbx⟩
       have hl4 : ¬ (6 < n4) := by rw [hU.len]; exact h4
       try have hx1 := SpOn.on hx1 hbx
       try have hx2 := SpOn.on hx2 hbx
       try have hu := SpOn.on hu hbx
       try have hU := SpOn.on hU hbx
       try have hm := SpOn.on hm hbx
       try have hM := SpOn.on hM hbx
       have hbw := hbw.trans (hbx.mono hbw.size))
    | (go_at_call 10
       refine (refSame_yes hu hU (by have := hu.len; omega) rfl).mono ?_
       rintro e wn ⟨rfl, hbx⟩
       try have hx1 := SpOn.on hx1 hbx
       try have hx2 := SpOn.on hx2 hbx
       try have hu := SpOn.on hu hbx
       try have hU := SpOn.on hU hbx
       try have hm := SpOn.on hm hbx
       try have hM := SpOn.on hM hbx
       have hbw := hbw.trans (hbx.mono hbw.size))
    | (go_at_call_of 12 (Value.string S1)
       refine (HP1.out _).mono ?_
       rintro e wn ⟨rfl, rfl⟩)
    | (go_at_call_of 12 (Value.string S2)
       refine (HP2.out _).mono ?_
       rintro e wn ⟨rfl, rfl⟩)
    | (go_at_call 5
       refine (HW.out _ hbw).mono ?_
       rintro e wn ⟨rfl, hbx⟩
       try have hx1 := SpOn.on hx1 hbx
       try have hx2 := SpOn.on hx2 hbx
       try have hu := SpOn.on hu hbx
       try have hU := SpOn.on hU hbx
       try have hm := SpOn.on hm hbx
       try have hM := SpOn.on hM hbx
       have hbw := hbw.trans (hbx.mono hbw.size)))
  go_ret
  exact ⟨rfl, hbw⟩
theorem joins_walk (s t : List UInt8) (w : World) (hs : s.length ≤ 9223372036854775807) (ht : t.length ≤ 9223372036854775807) (hT : Tabs w) : Calls Tryd.prog 4 #[.string (str s), .string (str t)] w fun e w' => e = .returned (.bool true) ∧ Below w.heap.size w w' := by
  rcases told_cases s with ⟨a, h1⟩ | h1
  · rcases told_cases t with ⟨b, h2⟩ | h2
    · by_cases h3 : s.length + t.length ≤ 390
      · by_cases h4 : 6 < (unionS a b).length
        · exact joins_long s t w hs ht hT h1 h2 h3 h4
        · cases p1 : plainL s with
          | false => exact joins_p1 s t w hs ht hT h1 h2 h3 h4 p1
          | true =>
            cases p2 : plainL t with
            | false => exact joins_p2 s t w hs ht hT h1 h2 h3 h4 p1 p2
            | true => exact joins_p3 s t w hs ht hT h1 h2 h3 h4 p1 p2
      · exact joins_far s t w hs ht hT h1 h2 (by omega)
    · exact joins_no3 s t w hs ht hT h1 h2
  · rcases told_cases t with ⟨b, h2⟩ | h2
    · exact joins_no2 s t w hs ht hT h1 h2
    · exact joins_no1 s t w hs ht hT h1 h2
end Go.Proofs.YtcgcgjcjgpcfiaaDoor.Rule
