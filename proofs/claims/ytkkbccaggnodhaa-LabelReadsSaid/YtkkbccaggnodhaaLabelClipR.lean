/-
  The contract of the document's own Clip: the bytes of a text's first runes. Condition: the text has no more than 1,000,000,000 bytes.
-/
import Derived.Test.YtkkbccaggnodhaaLabelClip
namespace Go.Proofs.Ytkkbccaggnodhaa.Label
open Go.RowKit Go.Lib
set_option linter.unusedVariables false
set_option maxHeartbeats 4000000 in
set_option maxRecDepth 100000 in
theorem refClip_any (s : ByteArray) (n : Int) (w : World) (hs : s.size ≤ 1000000000) (hn1 : -9223372036854775808 ≤ n) (hn2 : n ≤ 9223372036854775807) :
   Calls Try.prog 12 #[.string s, .int .i64 n] w fun e w' => e = .returned (.string (clipS s n)) ∧ Below w.heap.size w w' := by
  obtain ⟨E, hE⟩ : ∃ E, E = skip s n.toNat 0 := ⟨_, rfl⟩
  unfold clipS
  rw [← hE]
  have HR := hide (fun (i : Nat) (wx : World) => refRune_any s i wx hs)
  go_enter Try.func12, Try.ntmps12
  go_wp2
  go_loopw [1, 5] (fun u v w' => ∃ (pos : Nat) (m : Int), Below w.heap.size w w' ∧ u = .int .i64 m ∧ v = .int .i64 (pos : Int) ∧ -9223372036854775808 ≤ m ∧ m ≤ 9223372036854775807 ∧ Hid (E = skip s m.toNat pos) ∧ pos ≤ s.size) (fun _ v _ => s.size - (RowKit.intOf v).toNat)
  case atStart => exact ⟨0, n, Below.refl _ _, rfl, rfl, hn1, hn2, hide hE, by omega⟩
  case round =>
    obtain ⟨pos, m, hbw, rfl, rfl, hm1, hm2, he, hb⟩ := hrel
    by_cases hp : pos < s.size
    · by_cases h1 : 0 < m
      · have hwd := wd_pos s pos hp
        have hwl := wd_le s pos hp
        have HRi := hide (fun wx => HR.out pos wx hp)
        have He : Hid (E = skip s (m - 1).toNat (pos + wd s pos)) := hide (by rw [he.out, show m.toNat = (m - 1).toNat + 1 by omega, skip, if_pos hp])
        clear he hE HR
        generalize wd s pos = W at *
        generalize rn s pos = X at *
        go_wp2_with (first
          | (go_at_call 16
             refine (HRi.out _).mono ?_
             rintro e w1 ⟨rfl, q1, rfl⟩))
        go_roundw
        case rel => exact ⟨pos + W, m - 1, below_drewN hbw _, rfl, by go_num, by omega, by omega, He, by omega⟩
        case measure => simp [RowKit.intOf]; omega
      · have He : Hid (E = pos) := hide (by rw [he.out, show m.toNat = 0 by omega]; rfl)
        clear he hE HR
        go_wp2
        go_ret
        exact ⟨by rw [He.out]; rfl, hbw⟩
    · have He : Hid (E = pos) := hide (by rw [he.out, skip_end s _ _ hp])
      clear he hE HR
      go_wp2
      go_ret
      exact ⟨by rw [He.out]; rfl, hbw⟩
end Go.Proofs.Ytkkbccaggnodhaa.Label
