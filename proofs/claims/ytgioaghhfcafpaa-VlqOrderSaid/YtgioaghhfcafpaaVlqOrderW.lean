/-
  The walk of the law VlqOrder: it returns true, and leaves all memory that was there as it was. No condition.
-/
import Derived.Test.YtgioaghhfcafpaaVlqOrderM
import Derived.Deep.DeepMust
namespace Go.Proofs.Ytgioaghhfcafpaa.Vlq
open Go.RowKit
set_option linter.unusedVariables false
theorem put_at (ad : Addr) (n : Int) (m : List UInt8) (he : enc (held n) = m) (w : World) (hc : w.cell? ad = some (.int .i64 n)) :
   Calls Try.prog 8 #[.slice none 0 0, .slice (some ad) 1 1] w fun e w' => ∃ A k c, e = .returned (.slice A k c) ∧ NewB w' w.heap.size A k c m ∧ Below w.heap.size w w' := by
  have hb : ad.block < w.heap.size := World.block_lt_of_cell? w ad hc
  refine put_new none 0 0 [] (some ad) 1 1 [n] w m (by simp [encs, he]) (by omega) (by omega) Reads.none_ ⟨rfl, fun _ => ⟨ad, rfl, hb, fun j u hu => ?_⟩⟩
  have h0 : j = 0 := by
    rcases j with _ | j
    · rfl
    · simp [ics] at hu
  subst h0
  have : u = .int .i64 n := by simpa [ics] using hu.symm
  subst this
  rw [add_zero']
  exact hc
theorem bcell {W w1 : World} {B : Nat} (hb : Below B W w1) : (∀ b o, b < B → w1.cell? ⟨b, o, none⟩ = W.cell? ⟨b, o, none⟩) :=
  fun b o h => hb.cell (p := ⟨b, o, none⟩) h
set_option maxHeartbeats 1600000 in
set_option maxRecDepth 100000 in
theorem order_walk (a b : Int) (w : World) (h0 : 0 ≤ a) (h1 : b ≤ 1099511627776) (h2 : a < b) :
    Calls Try.prog 6 #[.int .i64 a, .int .i64 b] w fun e w' => e = .returned (.bool true) ∧ Below w.heap.size w w' := by
  obtain ⟨x, Hx⟩ : ∃ x, Hid (enc (held a) = x) := ⟨_, hide rfl⟩
  obtain ⟨y, Hy⟩ : ∃ y, Hid (enc (held b) = y) := ⟨_, hide rfl⟩
  go_enter Try.func6, Try.ntmps6
  go_upto_region 3 with fail
  go_cut [5, 6] (fun s t wx => s = .string (str x) ∧ t = .string (str y) ∧ Below w.heap.size w wx)
  case first =>
    go_region_with (first
      | (go_at_call 8
         refine (put_at _ a x Hx.out _ ?_).mono ?_
         (· go_simp)
         rintro e w1 ⟨A1, n1, c1, rfl, hn1, hb1⟩
         have hcv1 := hn1.conv
         have hbc1 := bcell hb1
         have hbw1 : Below w.heap.size w w1 := by
           first
             | exact ((Below.refl _ _).alloc (Nat.le_refl _) _).trans (hb1.mono (by simp))
             | exact (((Below.refl _ _).alloc (Nat.le_refl _) _).alloc (by simp) _).trans (hb1.mono (by simp; omega))
             | exact (((Below.refl _ _).alloc (Nat.le_refl _) _).drew).trans (hb1.mono (by simp))
             | exact ((((Below.refl _ _).alloc (Nat.le_refl _) _).alloc (by simp) _).drew).trans (hb1.mono (by simp; omega))
         have hcva : ∀ o, (convert 22 9 (.slice A1 n1 c1)).run Try.prog (w1.alloc o) = .ok (.string (str x)) (w1.alloc o) := fun o => (hn1.below ((Below.refl _ _).alloc (Nat.le_refl _) o)).conv)
      | (go_at_call 8
         refine (put_at _ b y Hy.out _ ?_).mono ?_
         (· go_simp)
         rintro e w2 ⟨A2, n2, c2, rfl, hn2, hb2⟩
         have hcv2 := hn2.conv
         have hb12 : Below w1.heap.size w1 w2 := by
           first
             | exact hb2
             | exact ((Below.refl _ _).alloc (Nat.le_refl _) _).trans (hb2.mono (by simp))
         clear hbc1
         have hbw2 : Below w.heap.size w w2 := hbw1.trans (hb12.mono hbw1.size)
         have hcv12 := (hn1.below hb12).conv))
    all_goals (go_wp2_with fail; go_meet; exact ⟨rfl, rfl, hbw2⟩)
  case rest =>
    obtain ⟨rfl, rfl, hb⟩ := hcut
    have hsx := str_size x
    have hsy := str_size y
    have hst := str_toList
    have hless : Less x y := by
      rw [← Hx.out, ← Hy.out]
      refine enc_less _ _ ?_
      have := held_of a h0 (by omega)
      have := held_of b (by omega) h1
      omega
    have HS := hide (show (str x).size = x.length ∧ (str y).size = y.length from ⟨hsx, hsy⟩)
    clear hsx hsy
    rcases hless with hl | ⟨hl, hlt⟩
    · have hl' : (str x).size < (str y).size := by rw [HS.out.1, HS.out.2]; exact hl
      clear hl
      go_wp2_with (first
        | (go_at_call 7
           refine (awake_any _).mono ?_
           rintro e w3 ⟨rfl, hb3⟩))
      go_ret
      exact ⟨rfl, hb.trans (hb3.mono hb.size)⟩
    · have hl1 : (((str x).size : Int) == ((str y).size : Int)) = true := by rw [HS.out.1, HS.out.2]; exact beq_iff_eq.2 (by omega)
      have hl2 : ¬ ((str x).size < (str y).size) := by rw [HS.out.1, HS.out.2]; omega
      clear hl
      go_wp2_with (first
        | (go_at_call 7
           refine (awake_any _).mono ?_
           rintro e w3 ⟨rfl, hb3⟩))
      go_ret
      exact ⟨rfl, hb.trans (hb3.mono hb.size)⟩
/-- What the law answers where it does not ask. -/
theorem order_skip (a b : Int) (w : World) (h : a < 0 ∨ 1099511627776 < b ∨ b ≤ a) :
    Calls Try.prog 6 #[.int .i64 a, .int .i64 b] w fun e w' => e = .returned (.bool true) ∧ Below w.heap.size w w' := by
  by_cases h0 : a < 0
  · go_enter Try.func6, Try.ntmps6
    go_wp2_with (first
      | (go_at_call 7
         refine (awake_any _).mono ?_
         rintro e w3 ⟨rfl, hb3⟩))
    go_ret
    exact ⟨rfl, hb3⟩
  · by_cases h1 : 1099511627776 < b
    · go_enter Try.func6, Try.ntmps6
      go_wp2_with (first
        | (go_at_call 7
           refine (awake_any _).mono ?_
           rintro e w3 ⟨rfl, hb3⟩))
      go_ret
      exact ⟨rfl, hb3⟩
    · have h2 : b ≤ a := by omega
      clear h
      go_enter Try.func6, Try.ntmps6
      go_wp2_with (first
        | (go_at_call 7
           refine (awake_any _).mono ?_
           rintro e w3 ⟨rfl, hb3⟩))
      go_ret
      exact ⟨rfl, hb3⟩
end Go.Proofs.Ytgioaghhfcafpaa.Vlq
