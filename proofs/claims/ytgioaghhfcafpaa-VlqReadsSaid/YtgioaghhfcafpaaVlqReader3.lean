/-
  The contracts of the program's Num and Str, over a reader and over none. No condition beyond the reader's own.
-/
import Derived.Test.YtgioaghhfcafpaaVlqReader2
namespace Go.Proofs.Ytgioaghhfcafpaa.Vlq
open Go.RowKit
set_option linter.unusedVariables false
theorem quiet_left {P : Program} {f : FuncId} {args : Array Value} {w : World} {n : Nat} {v : Value}
    (h : Calls P f args (w.drewN n) fun e w' => e = .returned v ∧ w.drewN n = w') : Calls P f args (w.drewN n) fun e w'' => e = .returned v ∧ ∃ m, w'' = w.drewN m :=
  h.mono fun _ _ ⟨he, hm⟩ => ⟨he, n, hm.symm⟩
theorem number_q (A : Option Addr) (n c : Nat) (l : List UInt8) (most : Int) (w : World) (B : Nat) (hn : n ≤ 1099511627776) (hnc : n ≤ c) (h : Reads w B 1 A n (bcs l)) (q1 q2 : Nat) (q3 : Int) (hq : (q1, q2, q3) = look l most) :
   Calls Try.prog 25 #[.slice A n c, .int .i64 most] w fun e w' => e = .returned (.tuple #[.int .i64 q1, .int .i64 q2, .int .i64 q3]) ∧ w = w' := by
  have := number_any A n c l most w B hn hnc h
  rw [← hq] at this
  exact this
def numR (l : List UInt8) (i : Nat) (er most : Int) : Int × Nat × Int :=
  if er ≠ 0 then (0, i, er) else ((look (l.drop i) most).1, i + (look (l.drop i) most).2.1, (look (l.drop i) most).2.2)
set_option maxHeartbeats 1600000 in
set_option maxRecDepth 100000 in
theorem num_any (g : Nat) (l : List UInt8) (i : Nat) (er most : Int) (w : World) (h : RdV w g l i er) :
   Calls Try.prog 13 #[.pointer (some ⟨g, 0, none⟩), .int .i64 most] w fun e w' => e = .returned (.int .i64 (numR l i er most).1) ∧ RdV w' g l (numR l i er most).2.1 (numR l i er most).2.2 ∧ w.grownBy w' (some g) := by
  obtain ⟨A, c, hc0, hc1, hc2, hf1, hf2, hr, hi, hlc, hl⟩ := h.cells
  by_cases he : er = 0
  · subst he
    have hrc := hr.cut (cap := c) hi hlc
    rw [Nat.mul_one, bcs_drop] at hrc
    obtain ⟨q1, q2, q3, Hq⟩ : ∃ q1 q2 q3, Hid ((q1, q2, q3) = look (l.drop i) most) := ⟨_, _, _, hide rfl⟩
    have Hc := hide (show numR l i 0 most = ((q1 : Int), i + q2, q3) from by simp [numR, ← Hq.out])
    have hql := look_le (l.drop i) most
    rw [← Hq.out, List.length_drop] at hql
    obtain ⟨hq1, hq2, hq3, hq4⟩ := hql
    simp only at hq1 hq2 hq4
    have hcap : (if c = i then A else Option.map (fun x => x.add i) A) = if c = i then A else Option.map (fun x => x.add i) A := rfl
    clear hq3 hcap
    by_cases hq0 : q3 = 0
    · subst hq0
      clear hq4
      by_cases hci : c = i
      · subst hci
        rw [if_pos rfl, show l.length - c = 0 from by omega] at hrc
        go_enter Try.func13, Try.ntmps13
        go_wp2_with (first
          | (go_at_call 20
             refine (err_any g l _ 0 _ h).mono ?_
             rintro e w1 ⟨rfl, rfl⟩))
        go_quiet ((go_at_call 25; exact quiet_left (number_q _ _ _ _ most _ g (by omega) (by omega) (hrc.drewN _) q1 q2 _ Hq.out)))
        go_wp2
        go_ret
        refine ⟨by rw [Hc.out]; rfl, ?_, only_setCell (only_drewN (only_self _ _) _) (.inl rfl) _⟩
        rw [Hc.out]
        exact (h.drewN _).setAt (c + q2) (by omega)
      · rw [if_neg hci] at hrc
        go_enter Try.func13, Try.ntmps13
        go_wp2_with (first
          | (go_at_call 20
             refine (err_any g l i 0 _ h).mono ?_
             rintro e w1 ⟨rfl, rfl⟩))
        go_quiet ((go_at_call 25; exact quiet_left (number_q _ _ _ (l.drop i) most _ g (by omega) (by omega) (hrc.drewN _) q1 q2 _ Hq.out)))
        go_wp2
        go_ret
        refine ⟨by rw [Hc.out]; rfl, ?_, only_setCell (only_drewN (only_self _ _) _) (.inl rfl) _⟩
        rw [Hc.out]
        exact (h.drewN _).setAt (i + q2) (by omega)
    · obtain ⟨rfl, rfl⟩ := hq4 hq0
      have hnb : (q3 != 0) = true := by rw [bne_iff_ne]; exact hq0
      clear hq0 hq4
      by_cases hci : c = i
      · subst hci
        rw [if_pos rfl, show l.length - c = 0 from by omega] at hrc
        go_enter Try.func13, Try.ntmps13
        go_wp2_with (first
          | (go_at_call 20
             refine (err_any g l _ 0 _ h).mono ?_
             rintro e w1 ⟨rfl, rfl⟩))
        go_quiet ((go_at_call 25; exact quiet_left (number_q _ _ _ _ most _ g (by omega) (by omega) (hrc.drewN _) 0 0 _ Hq.out)))
        go_wp2
        go_ret
        refine ⟨by rw [Hc.out]; rfl, ?_, only_setCell (only_drewN (only_self _ _) _) (.inl rfl) _⟩
        rw [Hc.out]
        exact (h.drewN _).setErr q3
      · rw [if_neg hci] at hrc
        go_enter Try.func13, Try.ntmps13
        go_wp2_with (first
          | (go_at_call 20
             refine (err_any g l i 0 _ h).mono ?_
             rintro e w1 ⟨rfl, rfl⟩))
        go_quiet ((go_at_call 25; exact quiet_left (number_q _ _ _ (l.drop i) most _ g (by omega) (by omega) (hrc.drewN _) 0 0 _ Hq.out)))
        go_wp2
        go_ret
        refine ⟨by rw [Hc.out]; rfl, ?_, only_setCell (only_drewN (only_self _ _) _) (.inl rfl) _⟩
        rw [Hc.out]
        exact (h.drewN _).setErr q3
  · have hnb : (er != 0) = true := by rw [bne_iff_ne]; exact he
    have Hc : Hid (numR l i er most = (0, i, er)) := hide (by simp [numR, he])
    clear he
    go_enter Try.func13, Try.ntmps13
    go_wp2_with (first
      | (go_at_call 20
         refine (err_any g l i er _ h).mono ?_
         rintro e w1 ⟨rfl, rfl⟩))
    go_ret
    exact ⟨by rw [Hc.out]; rfl, by rw [Hc.out]; exact h, only_self _ _⟩
end Go.Proofs.Ytgioaghhfcafpaa.Vlq
