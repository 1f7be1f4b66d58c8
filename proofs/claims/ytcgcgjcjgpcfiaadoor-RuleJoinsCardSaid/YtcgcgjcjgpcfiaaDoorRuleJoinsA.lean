/-
  Parts of the walk of the law RuleJoins: two rules with a mark, or a blank, between. Condition: the tables hold what the texts lay in them.
-/
import Derived.Test.YtcgcgjcjgpcfiaaDoorRuleAwake
import Derived.Test.YtcgcgjcjgpcfiaaDoorRulePlain
namespace Go.Proofs.YtcgcgjcjgpcfiaaDoor.Rule
open Go.RowKit Go.Lib Go.Proofs.YtcgcgjcjgpcfiaaDoor.Span
open Go.Proofs.YtcgcgjcjgpcfiaaDoor.Ver (Tabs)
set_option linter.unusedVariables false
theorem union_nf (a b : List S) : unionS a b = nf fun p => has a p || has b p := rfl
theorem meet_nf (a b : List S) : meetS a b = nf fun p => has a p && has b p := rfl
/-- What Read tells of a rule that is one. -/
theorem Read_ok {l : List UInt8} {a : List S} (h : told l = .ok a) (w : World) (hl : l.length ≤ 9223372036854775807) (hT : Tabs w) :
    Calls Tryd.prog 9 #[.string (str l)] w fun e w' => ∃ A n c, e = .returned (.tuple #[.slice A n c, .int .i64 0, .int .i64 0]) ∧ SpOn w' A n a ∧ Below w.heap.size w w' := by
  have := Read_any l w hl hT
  rw [h] at this
  exact this
theorem Read_long {l : List UInt8} (h : told l = .long) (w : World) (hl : l.length ≤ 9223372036854775807) (hT : Tabs w) :
    Calls Tryd.prog 9 #[.string (str l)] w fun e w' => ∃ A n c, e = .returned (.tuple #[.slice A n c, .int .i64 0, .int .i64 4]) ∧ SpOn w' A n [] ∧ Below w.heap.size w w' := by
  have := Read_any l w hl hT
  rw [h] at this
  exact this
theorem Read_no {l : List UInt8} (h : ∀ a, told l ≠ .ok a) (w : World) (hl : l.length ≤ 9223372036854775807) (hT : Tabs w) :
    Calls Tryd.prog 9 #[.string (str l)] w fun e w' => ∃ A n c p x, e = .returned (.tuple #[.slice A n c, .int .i64 p, .int .i64 x]) ∧ (x != 0) = true ∧ Below w.heap.size w w' := by
  refine (Read_any l w hl hT).mono ?_
  rintro e w' ⟨A, n, c, rfl, _, hb⟩
  refine ⟨A, n, c, _, _, rfl, ?_, hb⟩
  cases ht : told l with
  | ok a => exact absurd ht (h a)
  | form p => rfl
  | long => rfl
theorem told_cases (l : List UInt8) : (∃ a, told l = .ok a) ∨ ∀ a, told l ≠ .ok a := by
  cases h : told l with
  | ok a => exact .inl ⟨a, rfl⟩
  | form p => exact .inr fun a e => by cases e
  | long => exact .inr fun a e => by cases e
set_option maxHeartbeats 1000000 in
set_option maxRecDepth 100000 in
theorem joins_no1 (s t : List UInt8) (w : World) (hs : s.length ≤ 9223372036854775807) (ht : t.length ≤ 9223372036854775807) (hT : Tabs w) (h1 : ∀ a, told s ≠ .ok a) (h2 : ∀ a, told t ≠ .ok a) : Calls Tryd.prog 4 #[.string (str s), .string (str t)] w fun e w' => e = .returned (.bool true) ∧ Below w.heap.size w w' := by
  have hbw : Below w.heap.size w w := Below.refl _ _
  have HW := hide (fun wx (hb : Below w.heap.size w wx) => awake_any wx (hT.below hb))
  have H1 := hide (fun wx (hb : Below w.heap.size w wx) => Read_no h1 wx hs (hT.below hb))
  have H2 := hide (fun wx (hb : Below w.heap.size w wx) => Read_no h2 wx ht (hT.below hb))
  clear hT h1 h2
  generalize str s = S1 at *
  generalize str t = S2 at *
  go_enter Tryd.func4, Tryd.ntmps4
  go_wp2_with (first
    | (go_at_call_of 9 (Value.string S2)
       refine (H2.out _ hbw).mono ?_
       rintro e wn ⟨A2, n2, c2, p2, x2, rfl, he2, hbx⟩
       try have hx1 := SpOn.on hx1 hbx
       try have hx2 := SpOn.on hx2 hbx
       try have hu := SpOn.on hu hbx
       try have hU := SpOn.on hU hbx
       try have hm := SpOn.on hm hbx
       try have hM := SpOn.on hM hbx
       have hbw := hbw.trans (hbx.mono hbw.size))
    | (go_at_call_of 9 (Value.string S1)
       refine (H1.out _ hbw).mono ?_
       rintro e wn ⟨A1, n1, c1, p1, x1, rfl, he1, hbx⟩
       try have hx1 := SpOn.on hx1 hbx
       try have hx2 := SpOn.on hx2 hbx
       try have hu := SpOn.on hu hbx
       try have hU := SpOn.on hU hbx
       try have hm := SpOn.on hm hbx
       try have hM := SpOn.on hM hbx
       have hbw := hbw.trans (hbx.mono hbw.size))
    | (go_at_call 5
       refine (HW.out _ hbw).mono ?_
       rintro e wn ⟨rfl, hbx⟩
       try have hx1 := SpOn.on hx1 hbx
       try have hx2 := SpOn.on hx2 hbx
       try have hu := SpOn.on hu hbx
       try have hU := SpOn.on hU hbx
       try have hm := SpOn.on hm hbx
       try have hM := SpOn.on hM hbx
       have hbw := hbw.trans (hbx.mono hbw.size)))
  go_ret
  exact ⟨rfl, hbw⟩
set_option maxHeartbeats 1000000 in
set_option maxRecDepth 100000 in
theorem joins_no2 (s t : List UInt8) (w : World) (hs : s.length ≤ 9223372036854775807) (ht : t.length ≤ 9223372036854775807) (hT : Tabs w) {b : List S} (h1 : ∀ a, told s ≠ .ok a) (h2 : told t = .ok b) : Calls Tryd.prog 4 #[.string (str s), .string (str t)] w fun e w' => e = .returned (.bool true) ∧ Below w.heap.size w w' := by
  have hbw : Below w.heap.size w w := Below.refl _ _
  have HW := hide (fun wx (hb : Below w.heap.size w wx) => awake_any wx (hT.below hb))
  have H1 := hide (fun wx (hb : Below w.heap.size w wx) => Read_no h1 wx hs (hT.below hb))
  have H2 := hide (fun wx (hb : Below w.heap.size w wx) => Read_ok h2 wx ht (hT.below hb))
  clear hT h1 h2
  generalize str s = S1 at *
  generalize str t = S2 at *
  go_enter Tryd.func4, Tryd.ntmps4
  go_wp2_with (first
    | (go_at_call_of 9 (Value.string S2)
       refine (H2.out _ hbw).mono ?_
       rintro e wn ⟨A2, n2, c2, rfl, hx2, hbx⟩
       try have hx1 := SpOn.on hx1 hbx
       try have hx2 := SpOn.on hx2 hbx
       try have hu := SpOn.on hu hbx
       try have hU := SpOn.on hU hbx
       try have hm := SpOn.on hm hbx
       try have hM := SpOn.on hM hbx
       have hbw := hbw.trans (hbx.mono hbw.size))
    | (go_at_call_of 9 (Value.string S1)
       refine (H1.out _ hbw).mono ?_
       rintro e wn ⟨A1, n1, c1, p1, x1, rfl, he1, hbx⟩
       try have hx1 := SpOn.on hx1 hbx
       try have hx2 := SpOn.on hx2 hbx
       try have hu := SpOn.on hu hbx
       try have hU := SpOn.on hU hbx
       try have hm := SpOn.on hm hbx
       try have hM := SpOn.on hM hbx
       have hbw := hbw.trans (hbx.mono hbw.size))
    | (go_at_call 5
       refine (HW.out _ hbw).mono ?_
       rintro e wn ⟨rfl, hbx⟩
       try have hx1 := SpOn.on hx1 hbx
       try have hx2 := SpOn.on hx2 hbx
       try have hu := SpOn.on hu hbx
       try have hU := SpOn.on hU hbx
       try have hm := SpOn.on hm hbx
       try have hM := SpOn.on hM hbx
       have hbw := hbw.trans (hbx.mono hbw.size)))
  go_ret
  exact ⟨rfl, hbw⟩
set_option maxHeartbeats 1000000 in
set_option maxRecDepth 100000 in
theorem joins_no3 (s t : List UInt8) (w : World) (hs : s.length ≤ 9223372036854775807) (ht : t.length ≤ 9223372036854775807) (hT : Tabs w) {a : List S} (h1 : told s = .ok a) (h2 : ∀ b, told t ≠ .ok b) : Calls Tryd.prog 4 #[.string (str s), .string (str t)] w fun e w' => e = .returned (.bool true) ∧ Below w.heap.size w w' := by
  have hbw : Below w.heap.size w w := Below.refl _ _
  have HW := hide (fun wx (hb : Below w.heap.size w wx) => awake_any wx (hT.below hb))
  have H1 := hide (fun wx (hb : Below w.heap.size w wx) => Read_ok h1 wx hs (hT.below hb))
  have H2 := hide (fun wx (hb : Below w.heap.size w wx) => Read_no h2 wx ht (hT.below hb))
  clear hT h1 h2
  generalize str s = S1 at *
  generalize str t = S2 at *
  go_enter Tryd.func4, Tryd.ntmps4
  go_wp2_with (first
    | (go_at_call_of 9 (Value.string S2)
       refine (H2.out _ hbw).mono ?_
       rintro e wn ⟨A2, n2, c2, p2, x2, rfl, he2, hbx⟩
       try have hx1 := SpOn.on hx1 hbx
       try have hx2 := SpOn.on hx2 hbx
       try have hu := SpOn.on hu hbx
       try have hU := SpOn.on hU hbx
       try have hm := SpOn.on hm hbx
       try have hM := SpOn.on hM hbx
       have hbw := hbw.trans (hbx.mono hbw.size))
    | (go_at_call_of 9 (Value.string S1)
       refine (H1.out _ hbw).mono ?_
       rintro e wn ⟨A1, n1, c1, rfl, hx1, hbx⟩
       try have hx1 := SpOn.on hx1 hbx
       try have hx2 := SpOn.on hx2 hbx
       try have hu := SpOn.on hu hbx
       try have hU := SpOn.on hU hbx
       try have hm := SpOn.on hm hbx
       try have hM := SpOn.on hM hbx
       have hbw := hbw.trans (hbx.mono hbw.size))
    | (go_at_call 5
       refine (HW.out _ hbw).mono ?_
       rintro e wn ⟨rfl, hbx⟩
       try have hx1 := SpOn.on hx1 hbx
       try have hx2 := SpOn.on hx2 hbx
       try have hu := SpOn.on hu hbx
       try have hU := SpOn.on hU hbx
       try have hm := SpOn.on hm hbx
       try have hM := SpOn.on hM hbx
       have hbw := hbw.trans (hbx.mono hbw.size)))
  go_ret
  exact ⟨rfl, hbw⟩
set_option maxHeartbeats 1000000 in
set_option maxRecDepth 100000 in
theorem joins_far (s t : List UInt8) (w : World) (hs : s.length ≤ 9223372036854775807) (ht : t.length ≤ 9223372036854775807) (hT : Tabs w) {a b : List S} (h1 : told s = .ok a) (h2 : told t = .ok b) (h3 : 390 < s.length + t.length) : Calls Tryd.prog 4 #[.string (str s), .string (str t)] w fun e w' => e = .returned (.bool true) ∧ Below w.heap.size w w' := by
  have hbw : Below w.heap.size w w := Below.refl _ _
  have HW := hide (fun wx (hb : Below w.heap.size w wx) => awake_any wx (hT.below hb))
  obtain ⟨l1, la, _⟩ := told_ok h1
  obtain ⟨l2, lb, _⟩ := told_ok h2
  have H1 := hide (fun wx (hb : Below w.heap.size w wx) => Read_ok h1 wx hs (hT.below hb))
  have H2 := hide (fun wx (hb : Below w.heap.size w wx) => Read_ok h2 wx ht (hT.below hb))
  have z1 : (str s).size ≤ 400 := by rw [str_size]; exact l1
  have z2 : (str t).size ≤ 400 := by rw [str_size]; exact l2
  have z3 : 390 < (str s).size + (str t).size := by rw [str_size, str_size]; exact h3
  clear hT h1 h2 h3
  generalize str s = S1 at *
  generalize str t = S2 at *
  go_enter Tryd.func4, Tryd.ntmps4
  go_wp2_with (first
    | (go_at_call_of 9 (Value.string S2)
       refine (H2.out _ hbw).mono ?_
       rintro e wn ⟨A2, n2, c2, rfl, hx2, hbx⟩
       try have hx1 := SpOn.on hx1 hbx
       try have hx2 := SpOn.on hx2 hbx
       try have hu := SpOn.on hu hbx
       try have hU := SpOn.on hU hbx
       try have hm := SpOn.on hm hbx
       try have hM := SpOn.on hM hbx
       have hbw := hbw.trans (hbx.mono hbw.size))
    | (go_at_call_of 9 (Value.string S1)
       refine (H1.out _ hbw).mono ?_
       rintro e wn ⟨A1, n1, c1, rfl, hx1, hbx⟩
       try have hx1 := SpOn.on hx1 hbx
       try have hx2 := SpOn.on hx2 hbx
       try have hu := SpOn.on hu hbx
       try have hU := SpOn.on hU hbx
       try have hm := SpOn.on hm hbx
       try have hM := SpOn.on hM hbx
       have hbw := hbw.trans (hbx.mono hbw.size))
    | (go_at_call 5
       refine (HW.out _ hbw).mono ?_
       rintro e wn ⟨rfl, hbx⟩
       try have hx1 := SpOn.on hx1 hbx
       try have hx2 := SpOn.on hx2 hbx
       try have hu := SpOn.on hu hbx
       try have hU := SpOn.on hU hbx
       try have hm := SpOn.on hm hbx
       try have hM := SpOn.on hM hbx
       have hbw := hbw.trans (hbx.mono hbw.size)))
  go_ret
  exact ⟨rfl, hbw⟩
set_option maxHeartbeats 1000000 in
set_option maxRecDepth 100000 in
theorem joins_long (s t : List UInt8) (w : World) (hs : s.length ≤ 9223372036854775807) (ht : t.length ≤ 9223372036854775807) (hT : Tabs w) {a b : List S} (h1 : told s = .ok a) (h2 : told t = .ok b) (h3 : s.length + t.length ≤ 390) (h4 : 6 < (unionS a b).length) : Calls Tryd.prog 4 #[.string (str s), .string (str t)] w fun e w' => e = .returned (.bool true) ∧ Below w.heap.size w w' := by
  have hbw : Below w.heap.size w w := Below.refl _ _
  have HW := hide (fun wx (hb : Below w.heap.size w wx) => awake_any wx (hT.below hb))
  obtain ⟨l1, la, _⟩ := told_ok h1
  obtain ⟨l2, lb, _⟩ := told_ok h2
  have H1 := hide (fun wx (hb : Below w.heap.size w wx) => Read_ok h1 wx hs (hT.below hb))
  have H2 := hide (fun wx (hb : Below w.heap.size w wx) => Read_ok h2 wx ht (hT.below hb))
  have z1 : (str s).size ≤ 400 := by rw [str_size]; exact l1
  have z2 : (str t).size ≤ 400 := by rw [str_size]; exact l2
  have z3 : (str s).size + (str t).size ≤ 390 := by rw [str_size, str_size]; exact h3
  have hm := told_mark h1 h2 h3
  rw [← union_nf] at hm
  have k1 : str s ++ (⟨#[124]⟩ : ByteArray) = str (s ++ [124]) := str_append s [124]
  have k2 : str (s ++ [124]) ++ str t = str (s ++ 124 :: t) := by rw [str_append]; simp
  have z4 : (str (s ++ [124])).size ≤ 401 := by rw [str_size]; simp; omega
  have zl : (s ++ 124 :: t).length ≤ 9223372036854775807 := by simp; omega
  rw [if_pos h4] at hm
  have H3 := hide (fun wx (hb : Below w.heap.size w wx) => Read_long hm wx zl (hT.below hb))
  clear hT h1 h2 h3 hm zl
  generalize str (s ++ 124 :: t) = Y at *
  generalize str (s ++ [124]) = X at *
  generalize str s = S1 at *
  generalize str t = S2 at *
  go_enter Tryd.func4, Tryd.ntmps4
  go_wp2_with (first
    | (go_at_call_of 9 (Value.string Y)
       refine (H3.out _ hbw).mono ?_
       rintro e wn ⟨A3, n3, c3, rfl, hu, hbx⟩
       have hl3 : n3 = 0 := hu.len
       try have hx1 := SpOn.on hx1 hbx
       try have hx2 := SpOn.on hx2 hbx
       try have hu := SpOn.on hu hbx
       try have hU := SpOn.on hU hbx
       try have hm := SpOn.on hm hbx
       try have hM := SpOn.on hM hbx
       have hbw := hbw.trans (hbx.mono hbw.size))
    | (go_at_call_of 9 (Value.string S2)
       refine (H2.out _ hbw).mono ?_
       rintro e wn ⟨A2, n2, c2, rfl, hx2, hbx⟩
       try have hx1 := SpOn.on hx1 hbx
       try have hx2 := SpOn.on hx2 hbx
       try have hu := SpOn.on hu hbx
       try have hU := SpOn.on hU hbx
       try have hm := SpOn.on hm hbx
       try have hM := SpOn.on hM hbx
       have hbw := hbw.trans (hbx.mono hbw.size))
    | (go_at_call_of 9 (Value.string S1)
       refine (H1.out _ hbw).mono ?_
       rintro e wn ⟨A1, n1, c1, rfl, hx1, hbx⟩
       try have hx1 := SpOn.on hx1 hbx
       try have hx2 := SpOn.on hx2 hbx
       try have hu := SpOn.on hu hbx
       try have hU := SpOn.on hU hbx
       try have hm := SpOn.on hm hbx
       try have hM := SpOn.on hM hbx
       have hbw := hbw.trans (hbx.mono hbw.size))
    | (go_at_call 11
       refine (refUnion_on hx1 hx2 (by have := hx1.len; omega) (by have := hx2.len; omega)).mono ?_
       rintro e wn ⟨A4, n4, c4, rfl, hU, hbx⟩
       have hl4 : (6 < n4) := by rw [hU.len]; exact h4
       try have hx1 := SpOn.on hx1 hbx
       try have hx2 := SpOn.on hx2 hbx
       try have hu := SpOn.on hu hbx
       try have hU := SpOn.on hU hbx
       try have hm := SpOn.on hm hbx
       try have hM := SpOn.on hM hbx
       have hbw := hbw.trans (hbx.mono hbw.size))
    | (go_at_call 5
       refine (HW.out _ hbw).mono ?_
       rintro e wn ⟨rfl, hbx⟩
       try have hx1 := SpOn.on hx1 hbx
       try have hx2 := SpOn.on hx2 hbx
       try have hu := SpOn.on hu hbx
       try have hU := SpOn.on hU hbx
       try have hm := SpOn.on hm hbx
       try have hM := SpOn.on hM hbx
       have hbw := hbw.trans (hbx.mono hbw.size)))
  go_ret
  exact ⟨rfl, hbw⟩
end Go.Proofs.YtcgcgjcjgpcfiaaDoor.Rule
