/-
  The contract of the program's put: a new set of the call's own, and a span that begins no lower than its last one. Condition: fewer than 1,000,000 spans.
-/
import Derived.Test.YtgmkagddfbfolaaDoorSpanCells
namespace Go.Proofs.YtgmkagddfbfolaaDoor.Span
open Go.RowKit Go.Lib
set_option linter.unusedVariables false
/-- A new block that holds one span. -/
theorem reads_one (w : World) (x y : Int) (g : Nat) (hg : g = w.heap.size) : Reads (w.alloc (.cells #[.int .i64 x, .int .i64 y] 34)) (g + 1) 2 (some ⟨g, 0, none⟩) 1 (scs [(x, y)]) := by
  subst hg
  have h := Reads.newL w 34 #[.int .i64 x, .int .i64 y]
  refine ⟨rfl, fun _ => ?_⟩
  exact h.2 (by simp)
set_option maxHeartbeats 2000000 in
set_option maxRecDepth 100000 in
theorem put_any {B n c : Nat} {A : Option Addr} {l : List S} (x y : Int) (w : World) (h : NewS w B A n c l) (hB : B ≤ w.heap.size) (hn : n ≤ 1000000001) :
    Calls Tryd.prog 72 #[.slice A n c, .agg #[.int .i64 x, .int .i64 y]] w fun e w' => ∃ A' n' c', e = .returned (.slice A' n' c') ∧ NewS w' B A' n' c' (put l (x, y)) ∧ Below B w w' := by
  obtain ⟨i0, hi0, hz0, hz1, hz2⟩ := info_parts info_span
  have hl : n = l.length := h.1
  rcases List.eq_nil_or_concat l with he | ⟨a, t, he⟩
  · subst he
    have hn0 : n = 0 := by simpa using hl
    subst hn0
    have hown := h.2.2.1
    clear hl hn h
    go_enter Tryd.func72, Tryd.ntmps72
    go_upto_region 2 with fail
    go_quiet (fail)
    go_wp2_with (at_builtin
                 refine wpList_append_any _ rfl (.tmp 21) (.tmp 23) _ rfl B 34 i0 _ 2 16 Tryd.underlying22 hi0 hz0 hz1 hz2 rfl (by omega) _ _ _ rfl
                   (own_below hown ?_) _ _ 1 _ _ rfl (reads_one _ x y _ (by simp)) (scs_one _) (by unfold maxLen; omega) (by omega) (by simp; omega) ?_
                 · exact ((below_drewN ((Below.refl _ _).alloc (Nat.le_refl _) _) _).alloc (by simp) _)
                 intro v1 w1 hown2 hg1 hat1
                 have hb2 : Below B w w1 := (((below_drewN ((Below.refl _ _).alloc hB _) _).alloc (by simp; omega) _).grown hg1 (by simp; omega) (fun k hk => (hown.lt k hk).1)))
    go_ret
    rw [Nat.zero_add, ← scs_append] at hown2
    obtain ⟨A', c', rfl, hN⟩ := newS_of_own hown2
    exact ⟨A', _, c', rfl, by rw [put_nil]; exact hN, hb2⟩
  · rw [List.concat_eq_append] at he
    subst he
    obtain ⟨m, rfl⟩ : ∃ m, n = m + 1 := ⟨a.length, by rw [hl]; simp⟩
    have hm : m = a.length := by simpa using hl
    have hat : (a ++ [t])[m]? = some t := by rw [hm]; simp
    obtain ⟨g, rfl, hBg, hgl, c1, c2, f1, f2, _, _⟩ := h.cells_ m t hat
    have hown := h.2.2.1
    have hput := hide (put_snoc a t (x, y))
    have hs2 : (a ++ [t]).set m (t.1, max t.2 y) = a ++ [(t.1, max t.2 y)] := by rw [hm]; simp
    obtain ⟨p, q⟩ := t
    simp only [] at *
    clear hl hm
    have hadd : (⟨g, 0, none⟩ : Addr).add (m * 2) = ⟨g, m * 2, none⟩ := by unfold Addr.add; split <;> simp_all
    have d0 : decide ((m : Int) < 0) = false := decide_eq_false (by omega)
    have d1 : (m : Int) < (m : Int) + 1 := by omega
    have d2 : (0 : Int) ≤ (m : Int) := by omega
    by_cases hc : q < x
    · rw [if_pos hc] at hput
      have hput2 := hput
      go_enter Tryd.func72, Tryd.ntmps72
      go_upto_region 2 with fail
      go_quiet (fail)
      go_wp2_with (at_builtin
                   refine wpList_append_any _ rfl (.tmp 21) (.tmp 23) _ rfl B 34 i0 _ 2 16 Tryd.underlying22 hi0 hz0 hz1 hz2 rfl (by omega) _ _ _ rfl
                     (own_below hown ?_) _ _ 1 _ _ rfl (reads_one _ x y _ (by simp)) (scs_one _) (by unfold maxLen; omega) (by omega) (by simp; omega) ?_
                   · exact ((below_drewN ((Below.refl _ _).alloc (Nat.le_refl _) _) _).alloc (by simp) _)
                   intro v1 w1 hown2 hg1 hat1
                   have hb2 : Below B w w1 := (((below_drewN ((Below.refl _ _).alloc hB _) _).alloc (by simp; omega) _).grown hg1 (by simp; omega) (fun k hk => (hown.lt k hk).1)))
      go_ret
      rw [← scs_append] at hown2
      obtain ⟨A', c', rfl, hN⟩ := newS_of_own hown2
      exact ⟨A', _, c', rfl, by rw [hput.out]; exact hN, hb2⟩
    · rw [if_neg hc] at hput
      have hmx := hide (show ∀ z, z = max q y → (a ++ [(p, q)]).set m (p, z) = put (a ++ [(p, q)]) (x, y) by intro z hz; rw [hz, hput.out]; exact hs2)
      clear hput hs2
      have d3 : q ≥ x := by omega
      go_enter Tryd.func72, Tryd.ntmps72
      go_upto_region 2 with fail
      go_quiet (fail)
      go_upto_region 4 with fail
      go_region
      have hz : (if q < y then y else q) = max q y := by split <;> omega
      have hmy := hmx.out _ hz
      generalize (if q < y then y else q) = z at *
      obtain ⟨g', e', _, _, _, _, _, _, hset, _⟩ := ((h.alloc (.cells #[.int .i64 x, .int .i64 y] 34)).drewN (nq + 1)).cells_ m (p, q) hat
      injection e' with e'
      injection e' with e'
      subst e'
      have hfin := hset z
      simp only [] at hfin
      rw [hmy] at hfin
      clear hset hmx hmy hz
      go_wp2_with fail
      go_ret
      exact ⟨_, _, _, rfl, hfin, (below_drewN ((Below.refl _ _).alloc hB _) _).setCell hBg _⟩
end Go.Proofs.YtgmkagddfbfolaaDoor.Span
