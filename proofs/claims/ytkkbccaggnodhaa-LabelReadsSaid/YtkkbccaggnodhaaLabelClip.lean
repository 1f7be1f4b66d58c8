/-
  The contract of the program's Clip: the bytes of a text's first runes. Condition: the text has no more than 1,000,000,000 bytes.
-/
import Derived.Test.YtkkbccaggnodhaaLabelRead
import Derived.Test.YtkkbccaggnodhaaLabelFit
import Derived.Test.YtkkbccaggnodhaaLabelClone
namespace Go.Proofs.Ytkkbccaggnodhaa.Label
open Go.RowKit Go.Lib
set_option linter.unusedVariables false
/-- A text's first runes. -/
def clipS (s : ByteArray) (n : Int) : ByteArray := s.extract 0 (skip s n.toNat 0)
theorem extract_all (s : ByteArray) (k : Nat) (h : s.size ≤ k) : s.extract 0 k = s := by
  apply ByteArray.ext
  simp only [ByteArray.data_extract]
  exact Array.extract_eq_self_of_le h
set_option maxHeartbeats 4000000 in
set_option maxRecDepth 100000 in
theorem clip_any (s : ByteArray) (n : Int) (w : World) (hs : s.size ≤ 1000000000) (hn1 : -9223372036854775808 ≤ n) (hn2 : n ≤ 9223372036854775807) :
   Calls Try.prog 11 #[.string s, .int .i64 n] w fun e w' => e = .returned (.string (clipS s n)) ∧ Below w.heap.size w w' := by
  obtain ⟨E, hE⟩ : ∃ E, E = skip s n.toNat 0 := ⟨_, rfl⟩
  unfold clipS
  rw [← hE]
  have Hall := hide (extract_all s s.size (Nat.le_refl _))
  have HC := hide (fun (t : ByteArray) (wx : World) (h : t.size ≤ 1000000000) => clone_any t wx h)
  have hsz : ∀ p : Nat, p ≤ s.size → (s.extract 0 p).size ≤ 1000000000 := fun p hp => by rw [ByteArray.size_extract]; omega
  go_enter Try.func11, Try.ntmps11
  go_wp2
  go_loopw [0, 1] (fun z u w' => ∃ (pos : Nat) (m : Int), w' = w.iter s pos ∧ z = .string s ∧ u = .int .i64 m ∧ -9223372036854775808 ≤ m ∧ m ≤ 9223372036854775807 ∧ Hid (E = skip s m.toNat pos) ∧ pos ≤ s.size) (fun _ _ w' => s.size - w'.iterPos w.heap.size)
  case atStart => exact ⟨0, n, rfl, rfl, rfl, hn1, hn2, hide hE, by omega⟩
  case round =>
    obtain ⟨pos, m, rfl, rfl, rfl, hm1, hm2, he, hb⟩ := hrel
    by_cases hp : pos < s.size
    · have hnx : ∀ ty, (Instr.next (.pointer (some ⟨w.heap.size, 0, none⟩)) true ty).run Try.prog (w.iter s pos) = .ok (.tuple #[.bool true, .int .i64 pos, .int .i32 (rn s pos)]) (w.iter s (pos + wd s pos)) := fun ty => run_next_any w s pos ty hp
      have hwd := wd_pos s pos hp
      have hwl := wd_le s pos hp
      by_cases h1 : m < 1
      · have He : Hid (E = pos) := hide (by rw [he.out, show m.toNat = 0 by omega]; rfl)
        have HCi := hide (fun wx => HC.out (s.extract 0 pos) wx (hsz pos hb))
        clear he hE HC hsz Hall
        go_wp2_with (first
          | (go_at_call 17
             refine (HCi.out _).mono ?_
             rintro e w1 ⟨rfl, hb1⟩))
        go_ret
        exact ⟨by rw [He.out]; rfl, (below_iter _ _ _).trans (hb1.mono (below_iter w s _).size)⟩
      · have He : Hid (E = skip s (m - 1).toNat (pos + wd s pos)) := hide (by rw [he.out, show m.toNat = (m - 1).toNat + 1 by omega, skip, if_pos hp])
        clear he hE HC hsz Hall
        generalize wd s pos = W at *
        generalize rn s pos = X at *
        go_wp2
        go_roundw
        case rel => exact ⟨pos + W, m - 1, rfl, rfl, rfl, by omega, by omega, He, by omega⟩
        case measure => simp; omega
    · have hnx : ∀ ty, (Instr.next (.pointer (some ⟨w.heap.size, 0, none⟩)) true ty).run Try.prog (w.iter s pos) = .ok (.tuple #[.bool false]) (w.iter s pos) := fun ty => run_next_end w s pos ty hp
      have He : Hid (s.extract 0 E = s) := hide (by rw [he.out, skip_end s _ _ hp, show pos = s.size by omega]; exact Hall.out)
      have HCi := hide (fun wx => HC.out s wx hs)
      clear he hE HC hsz Hall
      go_wp2_with (first
        | (go_at_call 17
           refine (HCi.out _).mono ?_
           rintro e w1 ⟨rfl, hb1⟩))
      go_ret
      exact ⟨by rw [He.out]; rfl, (below_iter _ _ _).trans (hb1.mono (below_iter w s _).size)⟩
end Go.Proofs.Ytkkbccaggnodhaa.Label
