/-
  Contracts of Least and Most. Condition: the slice reads as spans; Most's, that each ends within all places.
-/
import Derived.Test.YtbkbamidkofajaaSpanCells
namespace Go.Proofs.Ytbkbamidkofajaa.Span
open Go.RowKit Go.Lib
set_option linter.unusedVariables false
theorem least_any {B n c : Nat} {A : Option Addr} {l : List S} (w : World) (h : SpIn w B A n l) (hn : n ≤ 1000000001) :
    Calls Try.prog 18 #[.slice A n c] w fun e w' => e = .returned (.tuple #[.int .i64 ((l[0]?.getD (0, 0)).1), .bool (decide (0 < n))]) ∧ w = w' := by
  rcases Nat.eq_zero_or_pos n with h0 | h0
  · subst h0
    have e : l = [] := List.eq_nil_of_length_eq_zero h.1
    subst e
    go_enter Try.func18, Try.ntmps18
    go_wp2
    go_ret2
    exact ⟨rfl, rfl⟩
  · obtain ⟨ad, s, rfl, hbl, hx, c1, c2⟩ := h.at_ h0
    rw [hx]
    have e0 : decide (0 < n) = true := by simpa using h0
    rw [e0]
    have ha : ad.add (0 * 2) = ad := by simp [Addr.add]
    rw [ha] at c1 c2
    go_enter Try.func18, Try.ntmps18
    go_wp2
    go_ret2
    exact ⟨rfl, rfl⟩
theorem most_any {B n c : Nat} {A : Option Addr} {l : List S} (w : World) (h : SpIn w B A n l) (hn : n ≤ 1000000001) (hr : ∀ s ∈ l, -1 < s.2 ∧ s.2 ≤ 1000000000) :
    Calls Try.prog 19 #[.slice A n c] w fun e w' => e = .returned (.tuple #[.int .i64 (if n = 0 then 0 else (l[n - 1]?.getD (0, 0)).2 - 1), .bool (decide (0 < n))]) ∧ w = w' := by
  rcases Nat.eq_zero_or_pos n with h0 | h0
  · subst h0
    go_enter Try.func19, Try.ntmps19
    go_wp2
    go_ret2
    exact ⟨rfl, rfl⟩
  · obtain ⟨m, rfl⟩ : ∃ m, n = m + 1 := ⟨n - 1, by omega⟩
    obtain ⟨ad, s, rfl, hbl, hx, c1, c2⟩ := h.at_ (k := m) (by omega)
    have hrs := hr s (List.mem_of_getElem? hx)
    rw [if_neg (by omega), Nat.add_sub_cancel, hx]
    have e0 : decide (0 < m + 1) = true := by simp
    rw [e0]
    obtain ⟨x, y⟩ := s
    simp only [] at *
    show Calls _ _ _ _ fun e w' => e = .returned (.tuple #[.int .i64 (y - 1), .bool true]) ∧ w = w'
    clear hr hx
    go_enter Try.func19, Try.ntmps19
    go_wp2
    go_ret2
    exact ⟨rfl, rfl⟩
end Go.Proofs.Ytbkbamidkofajaa.Span
