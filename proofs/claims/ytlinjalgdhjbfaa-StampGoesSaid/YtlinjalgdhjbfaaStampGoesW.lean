/-
  The walk of the law StampGoes: it returns true, and leaves all memory that was there as it was. No condition.
-/
import Derived.Test.YtlinjalgdhjbfaaStampAwake
namespace Go.Proofs.Ytlinjalgdhjbfaa.Stamp
open Go.RowKit
set_option linter.unusedVariables false
theorem goes_skip (A0 : Option Addr) (n0 c0 : Nat) (A1 : Option Addr) (n1 c1 : Nat) (w : World) (h : 5000 < n0 ∨ 5000 < n1) :
    Calls Try.prog 4 #[.slice A0 n0 c0, .slice A1 n1 c1] w fun e w' => e = .returned (.bool true) ∧ Below w.heap.size w w' := by
  by_cases h0 : 5000 < n0
  · go_enter Try.func4, Try.ntmps4
    go_wp2_with (first
      | (go_at_call 6
         refine (awake_any _).mono ?_
         rintro e w3 ⟨rfl, hb3⟩))
    go_ret
    exact ⟨rfl, hb3⟩
  · have h1 : 5000 < n1 := by omega
    clear h
    go_enter Try.func4, Try.ntmps4
    go_wp2_with (first
      | (go_at_call 6
         refine (awake_any _).mono ?_
         rintro e w3 ⟨rfl, hb3⟩))
    go_ret
    exact ⟨rfl, hb3⟩
set_option maxHeartbeats 1600000 in
set_option maxRecDepth 100000 in
theorem goes_walk (A0 : Option Addr) (n0 c0 : Nat) (l0 : List UInt8) (A1 : Option Addr) (n1 c1 : Nat) (l1 : List UInt8) (w : World) (h0 : n0 ≤ 5000) (h1 : n1 ≤ 5000)
    (hr0 : Reads w w.heap.size 1 A0 n0 (bcs l0)) (hr1 : Reads w w.heap.size 1 A1 n1 (bcs l1)) :
    Calls Try.prog 4 #[.slice A0 n0 c0, .slice A1 n1 c1] w fun e w' => e = .returned (.bool true) ∧ Below w.heap.size w w' := by
  obtain ⟨i0, hi0, hz0, hz1, hz2⟩ := info_parts info_u8
  have hO := own_empty w w.heap.size 5 (Nat.le_refl _)
  have hR := hr0.alloc (Nat.le_refl _) (.cells #[] 5)
  obtain ⟨s, Hs⟩ : ∃ s, Hid (sum (l0 ++ l1) = s) := ⟨_, hide rfl⟩
  have Hon : Hid (on (sum l0) l1 = s) := hide (by rw [← Hs.out]; exact (on_append _ _ _).symm)
  have hs0 := sum_lt l0
  have Hn : Hid (sum [] = 2166136261) := hide rfl
  go_enter Try.func4, Try.ntmps4
  go_wp2_with (first
    | (at_builtin
       refine wpList_append_any _ rfl (.tmp 14) (.tmp 15) _ rfl w.heap.size 5 i0 _ 1 1 Try.underlying22 hi0 hz0 hz1 hz2 rfl (by omega) (.slice (some ⟨w.heap.size, 0, none⟩) 0 0) 0 [] rfl
         hO w.heap.size A0 n0 c0 _ rfl hR (bcs_one _) (by simp only [maxLen]; omega) (by omega) (by simp) ?_
       intro v1 w1 hown1 hg1 hat1
       have hown1' : w1.ownsRow w.heap.size 5 1 v1 n0 (bcs l0) := by simpa using hown1
       have hb1 : Below w.heap.size w w1 := ((Below.refl _ _).alloc (Nat.le_refl _) _).grown hg1 (by simp) (fun k hk => by simp [Value.ownBlock] at hk; omega)
       have hR1 := (hr1.below hb1).more hb1.size
       clear hown1 hg1 hat1 hO hR)
    | (at_builtin
       refine wpList_append_any _ rfl (.tmp 16) (.tmp 17) _ rfl w.heap.size 5 i0 _ 1 1 Try.underlying22 hi0 hz0 hz1 hz2 rfl (by omega) v1 n0 _ rfl
         hown1' _ A1 n1 c1 _ rfl hR1 (bcs_one _) (by simp only [maxLen]; omega) (by omega) hb1.size ?_
       intro v2 w2 hown2 hg2 hat2
       have hb2 : Below w.heap.size w w2 := hb1.grown hg2 hb1.size (fun k hk => (hown1'.lt k hk).1)
       rw [← bcs_append] at hown2
       obtain ⟨A2, c2, rfl, hn2⟩ := new_of_own hown2
       clear hown2 hg2 hat2 hown1')
    | (go_at_call_of 9 (Value.slice A2 (n0 + n1) c2)
       refine (sum_of _ _ _ (l0 ++ l1) _ _ (by omega) hn2.2.2.2).mono ?_
       rw [Hs.out]
       rintro e w3 ⟨rfl, rfl⟩)
    | (go_at_call_of 9 (Value.slice A0 n0 c0)
       refine (sum_of _ _ _ l0 _ _ (by omega) (hr0.below hb2)).mono ?_
       rintro e w3 ⟨rfl, rfl⟩)
    | (go_at_call 13
       refine (on_any (sum l0) _ _ _ l1 _ _ hs0 (by omega) (hr1.below hb2)).mono ?_
       rw [Hon.out]
       rintro e w3 ⟨rfl, rfl⟩)
    | (go_at_call 9
       refine (sum_of none 0 0 [] _ 0 (by omega) Reads.none_).mono ?_
       rw [Hn.out]
       rintro e w3 ⟨rfl, rfl⟩)
    | (go_at_call 6
       refine (awake_any _).mono ?_
       rintro e w7 ⟨rfl, hb7⟩))
  go_ret
  exact ⟨rfl, hb2.trans (hb7.mono hb2.size)⟩
end Go.Proofs.Ytlinjalgdhjbfaa.Stamp
