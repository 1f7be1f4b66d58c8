/-
  The contract of the program's putNum: it puts the document's bytes of the held number behind a slice of the call's own. Condition: the slice has at most 2^46 bytes.
-/
import Derived.Test.YtbckpcofcgapdaaWords
import Derived.Test.YtbckpcofcgapdaaVlqMath
import Derived.Test.YtbckpcofcgapdaaChecked
namespace Go.Proofs.Ytbckpcofcgapdaa.Vlq
open Go.RowKit
set_option linter.unusedVariables false
theorem or128_all : ∀ k : Fin 256, bits .or .u8 (k.val : Int) 128 = ((UInt8.ofNat (128 + k.val % 128)).toNat : Int) := by decide +kernel
theorem andNot128_all : ∀ k : Fin 256, bits .andNot .u8 (k.val : Int) 128 = ((UInt8.ofNat (k.val % 128)).toNat : Int) := by decide +kernel
theorem or128 (y : Nat) : bits .or .u8 ((y : Int) % 256) 128 = ((UInt8.ofNat (128 + y % 128)).toNat : Int) := by
  have := or128_all ⟨y % 256, by omega⟩
  simp only at this
  rw [show ((y : Int) % 256) = ((y % 256 : Nat) : Int) from by omega, this, show y % 256 % 128 = y % 128 from by omega]
theorem andNot128 (y : Nat) : bits .andNot .u8 ((y : Int) % 256) 128 = ((UInt8.ofNat (y % 128)).toNat : Int) := by
  have := andNot128_all ⟨y % 256, by omega⟩
  simp only at this
  rw [show ((y : Int) % 256) = ((y % 256 : Nat) : Int) from by omega, this, show y % 256 % 128 = y % 128 from by omega]
theorem or128_cell (x i : Nat) : [Value.int .u8 (bits .or .u8 ((x : Int) / 2 ^ (7 * i) % 256) 128)] = bcs [UInt8.ofNat (128 + x / 128 ^ i % 128)] := by
  rw [int_div, or128]; rfl
theorem andNot128_cell (x : Nat) : [Value.int .u8 (bits .andNot .u8 ((x : Int) % 256) 128)] = bcs [UInt8.ofNat (x % 128)] := by
  rw [andNot128]; rfl
set_option maxHeartbeats 800000 in
theorem putNum_any (n : Int) (v : Value) (m : Nat) (l : List UInt8) (w : World) (B : Nat) (hB : B ≤ w.heap.size) (hm2 : m ≤ 70368744177664)
   (hown : w.ownsRow B 5 1 v m (bcs l)) :
   Calls Try.prog 39 #[v, .int .i64 n] w fun e w' => ∃ v', e = .returned v' ∧ w'.ownsRow B 5 1 v' (m + (enc (held n)).length) (bcs (l ++ enc (held n))) ∧ Below B w w' := by
  obtain ⟨i0, hi0, hz0, hz1, hz2⟩ := info_parts info_u8
  obtain ⟨x, Hx⟩ : ∃ x, Hid (x = held n) := ⟨_, hide rfl⟩
  have hh : x ≤ 1099511627776 := by rw [Hx.out]; exact held_le n
  rw [← Hx.out]
  go_enter Try.func39, Try.ntmps39
  go_upto_region 1 with fail
  go_cut [1] (fun s1 wx => s1 = .int .i64 x ∧ w = wx)
  case first =>
    go_wp2_with fail
    all_goals (go_meet; exact ⟨ret_i (by rw [Hx.out]; unfold held; omega), rfl⟩)
  case rest =>
    obtain ⟨rfl, rfl⟩ := hcut
    go_wp2
    go_loop [5] (fun s => ∃ j : Nat, (0 < j → 0 < x / 128 ^ j) ∧ s = .int .i64 (7 * (j : Int))) (fun s => 60 - (intOf s).toNat)
    case atStart => exact ⟨0, by omega, rfl⟩
    case round =>
      obtain ⟨j, hj, rfl⟩ := hrel
      have hj5 : j ≤ 5 := by
        rcases Nat.eq_zero_or_pos j with h | h
        · omega
        · exact small_pow x j hh (hj h)
      by_cases hc : 0 < x / 128 ^ (j + 1)
      · have hd : decide ((0 : Int) < (x : Int) / 2 ^ (7 * j + 7)) = true := by rw [int_div']; exact decide_eq_true (by exact_mod_cast hc)
        have hj51 : j + 1 ≤ 5 := small_pow x (j + 1) hh hc
        go_wp2
        go_round
        case rel => exact ⟨j + 1, fun _ => hc, by go_num⟩
        case measure => simp [intOf]; omega
      · have hd : decide ((0 : Int) < (x : Int) / 2 ^ (7 * j + 7)) = false := by rw [int_div']; exact decide_eq_false (by exact_mod_cast hc)
        have Hc : Hid (x / 128 ^ (j + 1) = 0) := hide (Nat.eq_zero_of_not_pos hc)
        clear hc
        have hjp : ∀ i : Nat, i ≤ j → 0 < i → 0 < x / 128 ^ i := by
          intro i hi h0
          have h1 := hj (by omega)
          have h2 : (128 : Nat) ^ i ≤ 128 ^ j := Nat.pow_le_pow_right (by omega) hi
          have h3 : x / 128 ^ j ≤ x / 128 ^ i := Nat.div_le_div_left h2 (Nat.pow_pos (by omega))
          omega
        go_wp2
        go_loopw [0, 5] (fun b s wx => ∃ i : Nat, i ≤ j ∧ s = .int .i64 (7 * (i : Int)) ∧ wx.ownsRow B 5 1 b (m + (hi (x / 128 ^ (i + 1))).length) (bcs (l ++ hi (x / 128 ^ (i + 1)))) ∧ Below B w wx) (fun _ s _ => (intOf s).toNat)
        case atStart => exact ⟨j, Nat.le_refl _, rfl, by rw [Hc.out]; simpa [hi_zero] using hown, Below.refl _ _⟩
        case round =>
          obtain ⟨i, hij, rfl, hown1, hb1⟩ := hrel
          have hlen : (hi (x / 128 ^ (i + 1))).length ≤ 5 := hi_length _ 5 (by
            have : x / 128 ^ (i + 1) ≤ x / 128 := by rw [Nat.pow_succ, Nat.mul_comm, ← Nat.div_div_eq_div_mul]; exact Nat.div_le_self _ _
            omega)
          have hsz := hb1.size
          by_cases hi00 : 0 < i
          · have Hs := hide (hi_step x i (hjp i hij hi00))
            go_wp2_with (first
              | (at_builtin
                 refine wpList_append_any _ rfl (.tmp 20) (.tmp 26) _ rfl B 5 i0 _ 1 1 Try.underlying22 hi0 hz0 hz1 hz2 rfl (by omega) u0 _ _ rfl
                   (hown1.alloc _) _ _ 1 _ _ rfl (Reads.new1 _ _ _) (one_cell _ _) (by simp only [maxLen]; omega) (by omega) (by simp; omega) ?_
                 intro v1 w1 hown2 hg1 hat1
                 have hb2 : Below B w w1 := (hb1.alloc (by omega) _).grown hg1 (by simp; omega) (fun k hk => (hown1.lt k hk).1)))
            go_roundw
            case rel => exact ⟨i - 1, by omega, by rw [ret_i (show (7 : Int) * (i : Int) - 7 = 7 * ((i - 1 : Nat) : Int) from by omega)], by
              rw [or128_cell, ← bcs_append, List.append_assoc, Hs.out] at hown2
              rw [show i - 1 + 1 = i from by omega]
              have e := congrArg List.length Hs.out
              rw [List.length_append] at e
              rw [← e]
              exact hown2, hb2⟩
            case measure => simp [intOf]; omega
          · have h00 : i = 0 := by omega
            subst h00
            go_wp2_with (first
              | (at_builtin
                 refine wpList_append_any _ rfl (.tmp 28) (.tmp 32) _ rfl B 5 i0 _ 1 1 Try.underlying22 hi0 hz0 hz1 hz2 rfl (by omega) u0 _ _ rfl
                   (hown1.alloc _) _ _ 1 _ _ rfl (Reads.new1 _ _ _) (one_cell _ _) (by simp only [maxLen]; omega) (by omega) (by simp; omega) ?_
                 intro v1 w1 hown2 hg1 hat1
                 have hb2 : Below B w w1 := (hb1.alloc (by omega) _).grown hg1 (by simp; omega) (fun k hk => (hown1.lt k hk).1)))
            go_ret
            refine ⟨v1, rfl, ?_, hb2⟩
            rw [andNot128_cell, ← bcs_append, List.append_assoc] at hown2
            simpa [enc, Nat.add_assoc] using hown2
end Go.Proofs.Ytbckpcofcgapdaa.Vlq
