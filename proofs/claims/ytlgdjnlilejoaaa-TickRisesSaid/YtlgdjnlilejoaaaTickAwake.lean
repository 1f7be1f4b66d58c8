/-
  The chapter's examples hold, Add at two numbers, and the walks of the laws TickCounts and TickRises: each returns true, and leaves all memory that was there as it was. No condition beyond the width of the numbers.
-/
import Derived.Test.YtlgdjnlilejoaaaTick
namespace Go.Proofs.Ytlgdjnlilejoaaa.Tick
open Go.RowKit
set_option linter.unusedVariables false
theorem add_two (a b : Int) (w : World) (e : TypeId) (g : Nat) (hg : g = w.heap.size) :
   Calls Try.prog 8 #[.slice (some ⟨g, 0, none⟩) 2 2] (w.alloc (.cells #[.int .i64 a, .int .i64 b] e)) fun x w' => x = .returned (.int .i64 (addUp [a, b])) ∧ w.alloc (.cells #[.int .i64 a, .int .i64 b] e) = w' :=
  by subst hg; exact add_any _ 2 2 [a, b] _ _ (by omega) (Reads.newL w e #[.int .i64 a, .int .i64 b])
theorem awake_any (w : World) : Calls Try.prog 5 #[] w fun e w' => e = .returned (.bool true) ∧ Below w.heap.size w w' := by
  have h1 : addUp [1099511627776, 1] = 1099511627776 := by decide
  have h2 : tw 3 (2 : Int).toNat = 12 := by decide
  go_enter Try.func5, Try.ntmps5
  go_wp2_with (first
    | (go_at_call 8
       refine (add_two _ _ _ _ _ (by simp)).mono ?_
       rw [h1]
       rintro e w1 ⟨rfl, rfl⟩)
    | (go_at_call 12
       refine (twice_any 3 2 _ (by omega) (by omega)).mono ?_
       rw [h2]
       rintro e w1 ⟨rfl, rfl⟩))
  go_ret
  exact ⟨rfl, (Below.refl _ _).alloc (Nat.le_refl _) _⟩
theorem counts_skip (A : Option Addr) (n c : Nat) (a b : Int) (w : World) (h : 200 < n) :
    Calls Try.prog 3 #[.slice A n c, .int .i64 a, .int .i64 b] w fun e w' => e = .returned (.bool true) ∧ Below w.heap.size w w' := by
  go_enter Try.func3, Try.ntmps3
  go_wp2_with (first
    | (go_at_call 5
       refine (awake_any _).mono ?_
       rintro e w3 ⟨rfl, hb3⟩))
  go_ret
  exact ⟨rfl, hb3⟩
set_option maxHeartbeats 1600000 in
set_option maxRecDepth 100000 in
theorem counts_walk (A : Option Addr) (n c : Nat) (l : List Int) (a b : Int) (w : World) (hn : n ≤ 200) (hr : Reads w w.heap.size 1 A n (ics l))
    (hb1 : -9223372036854775808 ≤ b) (hb2 : b ≤ 9223372036854775807) :
    Calls Try.prog 3 #[.slice A n c, .int .i64 a, .int .i64 b] w fun e w' => e = .returned (.bool true) ∧ Below w.heap.size w w' := by
  go_enter Try.func3, Try.ntmps3
  go_wp2_with (first
    | (go_at_call 6
       refine (hold_any _ _).mono ?_
       rintro e w1 ⟨rfl, rfl⟩)
    | (go_at_call 7
       refine (refHold_any _ _).mono ?_
       rintro e w1 ⟨rfl, rfl⟩)
    | (go_at_call 8
       refine (add_any _ _ _ l _ _ (by omega) hr).mono ?_
       rintro e w1 ⟨rfl, rfl⟩)
    | (go_at_call 9
       refine (refAdd_any _ _ _ l _ _ (by omega) hr).mono ?_
       rintro e w1 ⟨rfl, rfl⟩)
    | (go_at_call 10
       refine (left_any _ _ _).mono ?_
       rintro e w1 ⟨rfl, rfl⟩)
    | (go_at_call 11
       refine (refLeft_any _ _ _).mono ?_
       rintro e w1 ⟨rfl, rfl⟩)
    | (go_at_call 12
       refine (twice_any _ _ _ hb1 hb2).mono ?_
       rintro e w1 ⟨rfl, rfl⟩)
    | (go_at_call 13
       refine (refTwice_any _ _ _ hb1 hb2).mono ?_
       rintro e w1 ⟨rfl, rfl⟩)
    | (go_at_call 14
       refine (passed_any _ _ _).mono ?_
       rintro e w1 ⟨rfl, rfl⟩)
    | (go_at_call 5
       refine (awake_any _).mono ?_
       rintro e w3 ⟨rfl, hb3⟩))
  go_ret
  exact ⟨rfl, hb3⟩
set_option maxHeartbeats 1600000 in
set_option maxRecDepth 100000 in
theorem rises_walk (a b c : Int) (w : World) (ha1 : -9223372036854775808 ≤ a) (ha2 : a ≤ 9223372036854775807)
    (hb1 : -9223372036854775808 ≤ b) (hb2 : b ≤ 9223372036854775807) (hc1 : -9223372036854775808 ≤ c) (hc2 : c ≤ 9223372036854775807) :
    Calls Try.prog 4 #[.int .i64 a, .int .i64 b, .int .i64 c] w fun e w' => e = .returned (.bool true) ∧ Below w.heap.size w w' := by
  obtain ⟨x, y, HX, HY, h, hx1, hx2, hy1, hy2⟩ : ∃ x y : Int, Hid (x = if b < a then b else a) ∧ Hid (y = if b > a then b else a) ∧ x ≤ y ∧ -9223372036854775808 ≤ x ∧ x ≤ 9223372036854775807 ∧ -9223372036854775808 ≤ y ∧ y ≤ 9223372036854775807 :=
    ⟨_, _, hide rfl, hide rfl, by repeat' split <;> omega, by repeat' split <;> omega, by repeat' split <;> omega, by repeat' split <;> omega, by repeat' split <;> omega⟩
  have k1 := hold_mono _ _ h
  have k2 := add_mono _ _ c h
  have k3 := left_mono c _ _ h
  have k4 := tw_mono _ _ c.toNat h
  have k5 := tw_mono_k c x.toNat y.toNat (by omega)
  have k6 := add_left _ _ h
  have Hmax : Hid ((if y > x then y else x) = y) := hide (by split <;> omega)
  have k7 : ¬ x < 1 → tw x (41 : Int).toNat = 1099511627776 := fun h => tw_often x 41 (by unfold hold; repeat' split <;> omega) (by omega)
  have hb := ((((Below.refl w.heap.size w).alloc (Nat.le_refl _) (.cells #[.int .i64 x, .int .i64 c] 3)).alloc (by simp) (.cells #[.int .i64 y, .int .i64 c] 3)).alloc (by simp; omega) (.cells #[.int .i64 x, .int .i64 (left x y)] 3))
  go_enter Try.func4, Try.ntmps4
  go_upto_region 1 with fail
  go_cut [7, 8] (fun s t wx => s = .int .i64 x ∧ t = .int .i64 y ∧ w = wx)
  case first =>
    go_wp2_with fail
    all_goals (go_meet; exact ⟨ret_i (by rw [HX.out]; split <;> omega), ret_i (by rw [HY.out]; split <;> omega), rfl⟩)
  case rest =>
    obtain ⟨rfl, rfl, rfl⟩ := hcut
    have hmax := Hmax.out
    by_cases h1 : x < 1
    · clear k7
      go_wp2_with (first
        | (go_at_call 6
           refine (hold_any _ _).mono ?_
           rintro e w1 ⟨rfl, rfl⟩)
        | (go_at_call 8
           refine (add_two _ _ _ _ _ (by simp)).mono ?_
           rintro e w1 ⟨rfl, rfl⟩)
        | (go_at_call 10
           refine (left_any _ _ _).mono ?_
           rintro e w1 ⟨rfl, rfl⟩)
        | (go_at_call 12
           refine (twice_any _ _ _ (by omega) (by omega)).mono ?_
           rintro e w1 ⟨rfl, rfl⟩)
        | (go_at_call 5
           refine (awake_any _).mono ?_
           rintro e w3 ⟨rfl, hb3⟩))
      go_ret
      exact ⟨rfl, hb.trans (hb3.mono hb.size)⟩
    · have k8 : tw x 41 = 1099511627776 := k7 h1
      clear k7
      go_wp2_with (first
        | (go_at_call 6
           refine (hold_any _ _).mono ?_
           rintro e w1 ⟨rfl, rfl⟩)
        | (go_at_call 8
           refine (add_two _ _ _ _ _ (by simp)).mono ?_
           rintro e w1 ⟨rfl, rfl⟩)
        | (go_at_call 10
           refine (left_any _ _ _).mono ?_
           rintro e w1 ⟨rfl, rfl⟩)
        | (go_at_call 12
           refine (twice_any _ _ _ (by omega) (by omega)).mono ?_
           rintro e w1 ⟨rfl, rfl⟩)
        | (go_at_call 5
           refine (awake_any _).mono ?_
           rintro e w3 ⟨rfl, hb3⟩))
      go_ret
      exact ⟨rfl, hb.trans (hb3.mono hb.size)⟩
end Go.Proofs.Ytlgdjnlilejoaaa.Tick
