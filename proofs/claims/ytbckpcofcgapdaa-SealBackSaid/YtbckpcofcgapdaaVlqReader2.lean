/-
  The contracts of the program's Err, Left, Close and Bad, over a reader and over none. No condition beyond the reader's own.
-/
import Derived.Test.YtbckpcofcgapdaaVlqReader
namespace Go.Proofs.Ytbckpcofcgapdaa.Vlq
open Go.RowKit
set_option linter.unusedVariables false
theorem RdV.cells {w : World} {g : Nat} {l : List UInt8} {i : Nat} {e : Int} (h : RdV w g l i e) :
   ∃ A c, w.cell? ⟨g, 0, none⟩ = some (.slice A l.length c) ∧ w.cell? ⟨g, 1, none⟩ = some (.int .i64 (i : Int)) ∧ w.cell? ⟨g, 2, none⟩ = some (.int .i64 e) ∧ w.frozen? ⟨g, 1, none⟩ = false ∧ w.frozen? ⟨g, 2, none⟩ = false ∧
     Reads w g 1 A l.length (bcs l) ∧ i ≤ l.length ∧ l.length ≤ c ∧ l.length ≤ 1099511627776 := by
  obtain ⟨A, c, hk, hr, h3⟩ := h
  exact ⟨A, c, (hk.cell 0).trans rfl, (hk.cell 1).trans rfl, (hk.cell 2).trans rfl, hk.frozen 1, hk.frozen 2, hr, h3⟩
theorem RdV.setAt {w : World} {g : Nat} {l : List UInt8} {i : Nat} {e : Int} (h : RdV w g l i e) (j : Nat) (hj : j ≤ l.length) : RdV (w.setCell ⟨g, 1, none⟩ (.int .i64 (j : Int))) g l j e := by
  obtain ⟨A, c, hk, hr, h3⟩ := h
  exact ⟨A, c, hk.set_ 1 _, hr.setCell (Nat.le_refl _) _, hj, h3.2⟩
theorem RdV.setErr {w : World} {g : Nat} {l : List UInt8} {i : Nat} {e : Int} (h : RdV w g l i e) (e' : Int) : RdV (w.setCell ⟨g, 2, none⟩ (.int .i64 e')) g l i e' := by
  obtain ⟨A, c, hk, hr, h3⟩ := h
  exact ⟨A, c, hk.set_ 2 _, hr.setCell (Nat.le_refl _) _, h3⟩
theorem RdV.drewN {w : World} {g : Nat} {l : List UInt8} {i : Nat} {e : Int} (h : RdV w g l i e) (n : Nat) : RdV (w.drewN n) g l i e := h
theorem err_any (g : Nat) (l : List UInt8) (i : Nat) (er : Int) (w : World) (h : RdV w g l i er) :
   Calls Try.prog 27 #[.pointer (some ⟨g, 0, none⟩)] w fun e w' => e = .returned (.int .i64 er) ∧ w = w' := by
  obtain ⟨A, c, hc0, hc1, hc2, hf1, hf2, hr, hi, hlc, hl⟩ := h.cells
  go_enter Try.func27, Try.ntmps27
  go_wp2
  go_ret
  exact ⟨rfl, rfl⟩
theorem err_nil (w : World) :
   Calls Try.prog 27 #[.pointer none] w fun e w' => e = .returned (.int .i64 1) ∧ w = w' := by
  go_enter Try.func27, Try.ntmps27
  go_wp2
  go_ret
  exact ⟨rfl, rfl⟩
set_option maxHeartbeats 800000 in
theorem left_any (g : Nat) (l : List UInt8) (i : Nat) (er : Int) (w : World) (h : RdV w g l i er) :
   Calls Try.prog 29 #[.pointer (some ⟨g, 0, none⟩)] w fun e w' => e = .returned (.int .i64 ((l.length : Int) - i)) ∧ ∃ n, w' = w.drewN n := by
  obtain ⟨A, c, hc0, hc1, hc2, hf1, hf2, hr, hi, hlc, hl⟩ := h.cells
  go_enter Try.func29, Try.ntmps29
  go_wp2
  go_quiet (fail)
  go_wp2
  go_ret
  exact ⟨rfl, _, rfl⟩
theorem left_nil (w : World) :
   Calls Try.prog 29 #[.pointer none] w fun e w' => e = .returned (.int .i64 0) ∧ w = w' := by
  go_enter Try.func29, Try.ntmps29
  go_wp2
  go_ret
  exact ⟨rfl, rfl⟩
/-- What Close tells. -/
def closed (l : List UInt8) (i : Nat) (e : Int) : Int := if e ≠ 0 then e else if i < l.length then 3 else 0
set_option maxHeartbeats 800000 in
theorem close_any (g : Nat) (l : List UInt8) (i : Nat) (er : Int) (w : World) (h : RdV w g l i er) :
   Calls Try.prog 14 #[.pointer (some ⟨g, 0, none⟩)] w fun e w' => e = .returned (.int .i64 (closed l i er)) ∧ ∃ n, w' = w.drewN n := by
  have hil : i ≤ l.length := h.cells.elim fun _ h => h.elim fun _ h => h.2.2.2.2.2.2.1
  by_cases he : er = 0
  · subst he
    by_cases hi : i < l.length
    · have Hc : Hid (closed l i 0 = 3) := hide (by simp [closed, hi])
      go_enter Try.func14, Try.ntmps14
      go_wp2_with (first
        | (go_at_call 27
           refine (err_any g l i 0 _ h).mono ?_
           rintro e w1 ⟨rfl, rfl⟩)
        | (go_at_call 29
           refine (left_any g l i 0 _ h).mono ?_
           rintro e w1 ⟨rfl, n, rfl⟩))
      go_ret
      exact ⟨by rw [Hc.out]; rfl, _, rfl⟩
    · have Hc : Hid (closed l i 0 = 0) := hide (by simp [closed, hi])
      go_enter Try.func14, Try.ntmps14
      go_wp2_with (first
        | (go_at_call 27
           refine (err_any g l i 0 _ h).mono ?_
           rintro e w1 ⟨rfl, rfl⟩)
        | (go_at_call 29
           refine (left_any g l i 0 _ h).mono ?_
           rintro e w1 ⟨rfl, n, rfl⟩))
      go_ret
      exact ⟨by rw [Hc.out]; rfl, _, rfl⟩
  · have hnb : (er != 0) = true := by rw [bne_iff_ne]; exact he
    have Hc : Hid (closed l i er = er) := hide (by simp [closed, he])
    clear he
    go_enter Try.func14, Try.ntmps14
    go_wp2_with (first
      | (go_at_call 27
         refine (err_any g l i er _ h).mono ?_
         rintro e w1 ⟨rfl, rfl⟩))
    go_ret
    exact ⟨by rw [Hc.out]; rfl, 0, rfl⟩
theorem close_nil (w : World) :
   Calls Try.prog 14 #[.pointer none] w fun e w' => e = .returned (.int .i64 1) ∧ w = w' := by
  go_enter Try.func14, Try.ntmps14
  go_wp2_with (first
    | (go_at_call 27
       refine (err_nil _).mono ?_
       rintro e w1 ⟨rfl, rfl⟩))
  go_ret
  exact ⟨rfl, rfl⟩
/-- The error behind Bad. -/
def bad (e b : Int) : Int := if e = 0 then b else e
end Go.Proofs.Ytbckpcofcgapdaa.Vlq
