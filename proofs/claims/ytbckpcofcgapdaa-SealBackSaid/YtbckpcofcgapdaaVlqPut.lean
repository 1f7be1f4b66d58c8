/-
  The contracts of the program's Put and Text: they answer a new slice, of the bytes that came and behind them the document's. Condition: no more than 10,000,000 bytes and 100,000 numbers come in.
-/
import Derived.Test.YtbckpcofcgapdaaVlqPutNum
import Derived.Test.YtbckpcofcgapdaaVlqRef
namespace Go.Proofs.Ytbckpcofcgapdaa.Vlq
open Go.RowKit
set_option linter.unusedVariables false
set_option maxHeartbeats 800000 in
set_option maxRecDepth 100000 in
theorem put_any (A0 : Option Addr) (m0 c0 : Nat) (l0 : List UInt8) (A : Option Addr) (k c : Nat) (l : List Int) (w : World) (hm : m0 ≤ 10000000) (hk : k ≤ 100000)
   (h0 : Reads w w.heap.size 1 A0 m0 (bcs l0)) (h : Reads w w.heap.size 1 A k (ics l)) :
   Calls Try.prog 33 #[.slice A0 m0 c0, .slice A k c] w fun e w' => ∃ v', e = .returned v' ∧ w'.ownsRow w.heap.size 5 1 v' (l0 ++ encs l).length (bcs (l0 ++ encs l)) ∧ Below w.heap.size w w' := by
  obtain ⟨i0, hi0, hz0, hz1, hz2⟩ := info_parts info_u8
  have hlk : l.length = k := by have := h.1; rw [ics_length] at this; omega
  have hl0 : l0.length = m0 := by have := h0.1; rw [bcs_length] at this; omega
  have Hlk := hide hlk
  have Hl0 := hide hl0
  clear hlk hl0
  go_enter Try.func33, Try.ntmps33
  go_wp2_with (first
    | (at_builtin
       refine wpList_append_any _ rfl (.const (.slice none 0 0)) (.tmp 8) _ rfl w.heap.size 5 i0 _ 1 1 Try.underlying22 hi0 hz0 hz1 hz2 rfl (by omega) (.slice none 0 0) 0 _ rfl
         (own_nil _ _ _) w.heap.size A0 m0 c0 _ rfl h0 (bcs_one _) (by simp only [maxLen]; omega) (by omega) (Nat.le_refl _) ?_
       intro v1 w1 hown1 hg1 hat1
       have hb1 : Below w.heap.size w w1 := (Below.refl _ _).grown hg1 (Nat.le_refl _) (by simp [Value.ownBlock])))
  rw [← bcs_append, Nat.zero_add, List.nil_append] at hown1
  go_loopw [5, 12] (fun s t wx => ∃ i : Nat, i ≤ k ∧ t = .int .i64 (i : Int) ∧ wx.ownsRow w.heap.size 5 1 s (l0 ++ encs (l.take i)).length (bcs (l0 ++ encs (l.take i))) ∧ Below w.heap.size w wx) (fun _ t _ => k - (intOf t).toNat)
  case atStart => exact ⟨0, by omega, rfl, by simpa [encs, Hl0.out] using hown1, hb1⟩
  case round =>
    obtain ⟨i, hi, rfl, hown, hb⟩ := hrel
    by_cases hc : i < k
    · obtain ⟨ad, z, rfl, hbl, hz, hcell⟩ := ics_at (h.below hb) hc
      have Hz := hide hz
      clear hz
      have hs1 : (l0 ++ encs (l.take i)).length ≤ 20000000 := by
        have := encs_length (l.take i)
        have h2 : (l.take i).length ≤ i := List.length_take_le _ _
        have h3 := Hl0.out
        rw [List.length_append]
        omega
      go_wp2_with (first
        | (go_at_call 39
           refine (putNum_any z u5 _ _ _ w.heap.size hb.size (by omega) hown).mono ?_
           rintro e w2 ⟨v2, rfl, hown2, hb2⟩))
      go_roundw
      case rel => exact ⟨i + 1, by omega, by go_num, by rw [← List.length_append, List.append_assoc, ← encs_snoc l i z Hz.out] at hown2; exact hown2, hb.trans hb2⟩
      case measure => simp [intOf]; omega
    · go_wp2
      go_ret
      exact ⟨_, rfl, by rw [List.take_of_length_le (by rw [Hlk.out]; omega)] at hown; exact hown, hb⟩
end Go.Proofs.Ytbckpcofcgapdaa.Vlq
