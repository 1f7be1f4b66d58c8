/-
  Some texts of this claim, one behind the other: RuleShow. What each proves, and its condition, stands at its head.
-/
import Derived.Test.YtpicnbidbddggaaGreatDoorX3
import Derived.Test.YtpicnbidbddggaaGreatDoorX14
import Derived.Test.YtpicnbidbddggaaGreatDoorX15
/-
  The contracts of the program's show and of the document's part: how a span is written. Condition: the span is one of a set; the tables hold what the texts lay in them.
-/
namespace Go.Proofs.YtpicnbidbddggaaGreatDoor.Rule
open Go.RowKit Go.Lib Go.Proofs.YtpicnbidbddggaaGreatDoor.Span Go.Proofs.YtpicnbidbddggaaGreatDoor.Grow
open Go.Proofs.YtpicnbidbddggaaGreatDoor.Ver (Tabs)
set_option linter.unusedVariables false
theorem refText_tz (p : Int) (w : World) : Calls Tryz.prog 150 #[.int .i64 p] w fun e w' => e = .returned (.string (str (tz p))) ∧ Below w.heap.size w w' := by
  unfold tz
  by_cases h : 0 ≤ p ∧ p < 1000000000
  · rw [if_pos h]
    obtain ⟨n, rfl⟩ : ∃ n : Nat, p = (n : Int) := ⟨p.toNat, by omega⟩
    have := Ver.refText_yes n w (by omega)
    rwa [Int.toNat_natCast]
  · rw [if_neg h]; exact Ver.refText_no p w h
set_option maxHeartbeats 1600000 in
set_option maxRecDepth 100000 in
theorem part_any (x y : Int) (w : World) (h0 : 0 ≤ x) (h1 : x < y) (h2 : y ≤ 1000000000) :
    Calls Tryz.prog 115 #[.agg #[.int .i64 x, .int .i64 y]] w fun e w' => e = .returned (.string (str (partL (x, y)))) ∧ Below w.heap.size w w' := by
  have hbA : Below w.heap.size w (w.alloc (.cells #[.int .i64 x, .int .i64 y] 60)) := (Below.refl _ _).alloc (Nat.le_refl _) _
  have HX := hide (fun wx (hb : Below w.heap.size w wx) => refText_tz x wx)
  have HY := hide (fun wx (hb : Below w.heap.size w wx) => refText_tz y wx)
  have sx : (str (tz x)).size ≤ 11 := by rw [str_size]; exact tz_len x
  have sy : (str (tz y)).size ≤ 11 := by rw [str_size]; exact tz_len y
  have e1 : Hid ((⟨#[61]⟩ : ByteArray) ++ str (tz x) = str (61 :: tz x)) := hide (str_append [61] (tz x))
  have e2 : Hid ((⟨#[60]⟩ : ByteArray) ++ str (tz y) = str (60 :: tz y)) := hide (str_append [60] (tz y))
  have e3 : Hid ((⟨#[62, 61]⟩ : ByteArray) ++ str (tz x) = str (62 :: 61 :: tz x)) := hide (str_append [62, 61] (tz x))
  have e4 : Hid ((⟨#[62, 61]⟩ : ByteArray) ++ str (tz x) ++ (⟨#[32, 60]⟩ : ByteArray) ++ str (tz y) = str (62 :: 61 :: (tz x ++ 32 :: 60 :: tz y))) := hide (by
    have a1 := str_append [62, 61] (tz x)
    have a2 := str_append ([62, 61] ++ tz x) [32, 60]
    have a3 := str_append ([62, 61] ++ tz x ++ [32, 60]) (tz y)
    have b1 : (⟨#[62, 61]⟩ : ByteArray) = str [62, 61] := rfl
    have b2 : (⟨#[32, 60]⟩ : ByteArray) = str [32, 60] := rfl
    rw [b1, b2, a1, a2, a3]
    simp)
  by_cases c1 : y = x + 1
  · have hp : partL (x, y) = 61 :: tz x := by unfold partL; rw [if_pos c1]
    rw [hp, ← e1.out]
    clear hp e1 e2 e3 e4 HY sy
    subst c1
    generalize str (tz x) = X at *
    go_enter Tryz.func115, Tryz.ntmps115
    go_wp2_with (go_at_call 150
                 refine (HX.out _ hbA).mono ?_
                 rintro e w1 ⟨rfl, hb1⟩)
    go_ret
    exact ⟨rfl, hbA.trans (hb1.mono hbA.size)⟩
  · have d1 : (y == x + 1) = false := beq_eq_false_iff_ne.2 c1
    by_cases c2 : x = 0
    · have hp : partL (x, y) = 60 :: tz y := by unfold partL; rw [if_neg c1, if_pos c2]
      rw [hp, ← e2.out]
      clear hp e1 e2 e3 e4 HX sx
      subst c2
      generalize str (tz y) = Y at *
      go_enter Tryz.func115, Tryz.ntmps115
      go_wp2_with (go_at_call 150
                   refine (HY.out _ hbA).mono ?_
                   rintro e w1 ⟨rfl, hb1⟩)
      go_ret
      exact ⟨rfl, hbA.trans (hb1.mono hbA.size)⟩
    · have d2 : (x == 0) = false := beq_eq_false_iff_ne.2 c2
      by_cases c3 : y = 1000000000
      · have hp : partL (x, y) = 62 :: 61 :: tz x := by unfold partL; rw [if_neg c1, if_neg c2, if_pos c3]
        rw [hp, ← e3.out]
        clear hp e1 e2 e3 e4 HY sy
        subst c3
        generalize str (tz x) = X at *
        go_enter Tryz.func115, Tryz.ntmps115
        go_wp2_with (go_at_call 150
                     refine (HX.out _ hbA).mono ?_
                     rintro e w1 ⟨rfl, hb1⟩)
        go_ret
        exact ⟨rfl, hbA.trans (hb1.mono hbA.size)⟩
      · have d3 : (y == 1000000000) = false := beq_eq_false_iff_ne.2 c3
        have hp : partL (x, y) = 62 :: 61 :: (tz x ++ 32 :: 60 :: tz y) := by unfold partL; rw [if_neg c1, if_neg c2, if_neg c3]
        rw [hp, ← e4.out]
        clear hp e1 e2 e3 e4 c1 c2 c3
        generalize str (tz x) = X at *
        generalize str (tz y) = Y at *
        go_enter Tryz.func115, Tryz.ntmps115
        go_upto_region 7 with fail
        have hB := Blk.new w 60 #[.int .i64 x, .int .i64 y]
        have hc0 := Ver.cell_at_reg (hB.cell 0)
        have hc1 := Ver.cell_at_reg (hB.cell 1)
        refine wp_region_grow [(29, isC (.string X)), (34, isC (.string Y))] [29, 34]
          (by kernel_rfl) (by kernel_rfl) rfl (by kernel_rfl) (by kernel_rfl) ⟨isC_stable _, isC_stable _, trivial⟩ ?_
        repeat (first
          | (refine lex_skip rfl ?_; simp only [Act.put, List.setIfInBounds_toArray, List.set_cons_zero, List.set_cons_succ])
          | (refine lex_quiet rfl rfl rfl (fun K hK => ?_); unfold Reg; go_big_quiet_op; refine hK _ ?_; clear hK K)
          | (refine lex_rel rfl rfl (fun w' hb hK => ?_) (fun v w' hb hv => ?_)
             · unfold grows
               go_simp
               first
                 | (go_at_call_of 150 (Value.int IntKind.i64 x)
                    exact call_isC (HX.out w' (hbA.trans (hb.mono hbA.size))))
                 | (go_at_call_of 150 (Value.int IntKind.i64 y)
                    exact call_isC (HY.out w' (hbA.trans (hb.mono hbA.size))))
             obtain rfl := hv
             simp only [Act.put, List.setIfInBounds_toArray, List.set_cons_zero, List.set_cons_succ]))
        refine lex_nil (fun w9 hC9 _ => ?_)
        have hb9 := reg_iff.1 hC9
        go_wp2
        go_ret
        exact ⟨rfl, hbA.trans (hb9.mono hbA.size)⟩
end Go.Proofs.YtpicnbidbddggaaGreatDoor.Rule
