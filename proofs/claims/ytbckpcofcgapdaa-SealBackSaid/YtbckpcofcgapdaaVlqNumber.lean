/-
  The contracts of the program's width and number: they answer the plain mathematics' width and look, and leave memory alone. Condition: no more than 2^40 bytes.
-/
import Derived.Test.YtbckpcofcgapdaaVlqMath2
import Derived.Test.YtbckpcofcgapdaaVlqRef
import Derived.Test.YtbckpcofcgapdaaVlqPutNum
import Derived.Laws.BitsAllLaws
import Derived.Laws.BitsLemmas
namespace Go.Proofs.Ytbckpcofcgapdaa.Vlq
open Go.RowKit
set_option linter.unusedVariables false
theorem ret_two {a b c d : Int} (h : a = c) (h' : b = d) : Ending.returned (.tuple #[.int .i64 a, .int .i64 b]) = .returned (.tuple #[.int .i64 c, .int .i64 d]) := by rw [h, h']
set_option maxHeartbeats 800000 in
set_option maxRecDepth 100000 in
theorem width_any (A : Option Addr) (n c : Nat) (l : List UInt8) (w : World) (B : Nat) (hn : n ≤ 1099511627776) (h : Reads w B 1 A n (bcs l)) :
   Calls Try.prog 38 #[.slice A n c] w fun e w' => e = .returned (.tuple #[.int .i64 (width l).1, .int .i64 (width l).2]) ∧ w = w' := by
  have hln : l.length = n := by have := h.1; rw [bcs_length] at this; omega
  have Hln := hide hln
  clear hln
  by_cases h0 : n = 0
  · subst h0
    have : l = [] := List.eq_nil_of_length_eq_zero Hln.out
    subst this
    go_enter Try.func38, Try.ntmps38
    go_wp2
    go_ret2
    exact ⟨rfl, rfl⟩
  · obtain ⟨ad, z0, rfl, hbl, hz0, hc0⟩ := bcs_at (k := 0) h (by omega)
    rw [add_zero'] at hc0
    have Hz0 := hide hz0
    clear hz0
    have hp : 0 < n := by omega
    have hnb : ((n : Int) == 0) = false := by simp; omega
    clear h0
    by_cases h8 : z0.toNat = 128
    · have hzb : ((z0.toNat : Int) == 128) = true := by simp; omega
      have Hw := hide (width_128 l z0 Hz0.out h8)
      clear h8
      go_enter Try.func38, Try.ntmps38
      go_wp2
      go_ret2
      exact ⟨by rw [Hw.out]; rfl, rfl⟩
    · have hzb : ((z0.toNat : Int) == 128) = false := by simp; omega
      have Hw := hide (width_cons l z0 Hz0.out h8)
      clear h8
      go_enter Try.func38, Try.ntmps38
      go_wp2
      go_loop [15] (fun t => ∃ i : Nat, i ≤ n ∧ i ≤ 5 ∧ t = .int .i64 (i : Int) ∧ wd (l.drop i) i = wd l 0) (fun t => n - (intOf t).toNat)
      case atStart => exact ⟨0, by omega, by omega, rfl, rfl⟩
      case round =>
        obtain ⟨i, hi, hi5, rfl, hwd⟩ := hrel
        have Hwd := hide hwd
        clear hwd
        by_cases hc : i < n
        · obtain ⟨ad', z, hA, _, hz, hcell⟩ := bcs_at (k := i) h hc
          injection hA with hA
          subst hA
          have Hz := hide hz
          clear hz
          by_cases hz8 : z.toNat < 128
          · have Hs := hide (wd_stop l i z Hz.out hz8)
            go_wp2
            go_ret2
            exact ⟨by rw [Hw.out, ← Hwd.out, Hs.out]; exact ret_two (by simp) rfl, rfl⟩
          · by_cases h6 : i + 1 = 6
            · have Hs := hide (wd_long l i z Hz.out hz8 h6)
              have h6b : ((i : Int) + 1 == 6) = true := by simp; omega
              clear h6
              go_wp2
              go_ret2
              exact ⟨by rw [Hw.out, ← Hwd.out, Hs.out]; exact ret_two (by simp) rfl, rfl⟩
            · have Hs := hide (wd_drop l i z Hz.out hz8 h6)
              have h6b : ((i : Int) + 1 == 6) = false := by simp; omega
              have h65 : i + 1 ≤ 5 := by omega
              clear h6
              go_wp2
              go_round
              case rel => exact ⟨i + 1, by omega, h65, by go_num, by rw [← Hs.out, Hwd.out]⟩
              case measure => simp [intOf]; omega
        · have Hs := hide (wd_end l i (by have := Hln.out; omega))
          go_wp2
          go_ret2
          exact ⟨by rw [Hw.out, ← Hwd.out, Hs.out]; exact ret_two (by simp) rfl, rfl⟩
theorem ret_three {a b c d e f : Int} (h : a = d) (h' : b = e) (h'' : c = f) : Ending.returned (.tuple #[.int .i64 a, .int .i64 b, .int .i64 c]) = .returned (.tuple #[.int .i64 d, .int .i64 e, .int .i64 f]) := by rw [h, h', h'']
theorem ofInt_i64 (a : Nat) (ha : a < 9223372036854775808) : (BitVec.ofInt 64 (a : Int)).toNat = a := by
  rw [BitVec.ofInt_natCast, BitVec.toNat_ofNat]; exact Nat.mod_eq_of_lt (by omega)
theorem i64_or_nat (a b : Nat) (ha : a < 9223372036854775808) (hb : b < 9223372036854775808) : bits .or .i64 (a : Int) (b : Int) = ((a ||| b : Nat) : Int) := by
  have hx : a ||| b < 2 ^ 63 := Nat.or_lt_two_pow (by omega) (by omega)
  show IntKind.i64.wrap ((BitVec.ofInt 64 (a : Int) ||| BitVec.ofInt 64 (b : Int)).toNat : Int) = _
  rw [BitVec.toNat_or, ofInt_i64 a ha, ofInt_i64 b hb, IntKind.wrap_i64]
  omega
theorem or_digit (y : Nat) (z : UInt8) (hy : y < 128 ^ 5) : bits .or .i64 ((y : Int) * 128) (wrap64 (bits .andNot .u8 (z.toNat : Int) 128)) = ((y * 128 + z.toNat % 128 : Nat) : Int) := by
  have h1 := andNot128_all ⟨z.toNat, z.toNat_lt⟩
  simp only at h1
  rw [h1]
  have h2 : (UInt8.ofNat (z.toNat % 128)).toNat = z.toNat % 128 := by simp; omega
  rw [h2, show wrap64 ((z.toNat % 128 : Nat) : Int) = ((z.toNat % 128 : Nat) : Int) from by unfold wrap64; omega]
  have h3 : ((y : Int) * 128) = ((y * 128 : Nat) : Int) := by omega
  rw [h3, i64_or_nat _ _ (by omega) (by omega)]
  have h4 : y * 128 ||| z.toNat % 128 = y * 128 + z.toNat % 128 := by
    have := Nat.shiftLeft_add_eq_or_of_lt (b := z.toNat % 128) (i := 7) (by omega) y
    rw [Nat.shiftLeft_eq] at this
    exact this.symm
  rw [h4]
set_option maxHeartbeats 800000 in
set_option maxRecDepth 100000 in
theorem number_any (A : Option Addr) (n c : Nat) (l : List UInt8) (most : Int) (w : World) (B : Nat) (hn : n ≤ 1099511627776) (hnc : n ≤ c) (h : Reads w B 1 A n (bcs l)) :
   Calls Try.prog 28 #[.slice A n c, .int .i64 most] w fun e w' => e = .returned (.tuple #[.int .i64 (look l most).1, .int .i64 (look l most).2.1, .int .i64 (look l most).2.2]) ∧ w = w' := by
  have hln : l.length = n := by have := h.1; rw [bcs_length] at this; omega
  have hw := width_le l
  rw [hln] at hw
  have Hln := hide hln
  clear hln
  by_cases he : (width l).2 = 0
  · obtain ⟨k, Hk⟩ : ∃ k, Hid (k = (width l).1) := ⟨_, hide rfl⟩
    have Hw := hide (show width l = (k, 0) from by rw [Hk.out, ← he])
    have hk6 : k ≤ 6 := by rw [Hk.out]; omega
    have hkn : k ≤ n := by rw [Hk.out]; omega
    have hL : look l most = if 1099511627776 < val (l.take k) ∨ most < (val (l.take k) : Int) then (0, 0, 4) else (val (l.take k), k, 0) := by
      unfold look
      rw [Hw.out]; simp
    have HL := hide hL
    clear hL he hw
    have hr := h.take hkn
    rw [bcs_take] at hr
    go_enter Try.func28, Try.ntmps28
    go_wp2_with (first
      | (go_at_call 38
         refine (width_any _ _ _ l _ B (by omega) h).mono ?_
         rw [Hw.out]
         rintro e w1 ⟨rfl, rfl⟩))
    go_loop [9, 24] (fun s t => ∃ i : Nat, i ≤ k ∧ t = .int .i64 (i : Int) ∧ s = .int .i64 (val (l.take i) : Int)) (fun _ t => k - (intOf t).toNat)
    case atStart => exact ⟨0, by omega, rfl, rfl⟩
    case round =>
      obtain ⟨i, hi, rfl, rfl⟩ := hrel
      by_cases hc : i < k
      · obtain ⟨ad, z, rfl, hbl, hz, hcell⟩ := bcs_at (k := i) h (by omega)
        have Hz := hide hz
        clear hz
        have Hs := hide (val_take l i z Hz.out)
        have hv := val_take_lt l i 5 (by omega)
        generalize val (l.take i) = y at *
        go_wp2
        go_round
        case rel => exact ⟨i + 1, by omega, by go_num, by rw [Hs.out, or_digit y z hv]⟩
        case measure => simp [intOf]; omega
      · have : i = k := by omega
        subst this
        have hv := val_take_lt l i 6 (by omega)
        generalize val (l.take i) = y at *
        by_cases h1 : 1099511627776 < y
        · rw [if_pos (.inl h1)] at HL
          go_wp2
          go_ret3
          exact ⟨by rw [HL.out]; rfl, rfl⟩
        · by_cases h2 : most < (y : Int)
          · rw [if_pos (.inr h2)] at HL
            go_wp2
            go_ret3
            exact ⟨by rw [HL.out]; rfl, rfl⟩
          · rw [if_neg (by omega)] at HL
            go_wp2
            go_ret3
            exact ⟨by rw [HL.out]; rfl, rfl⟩
  · have hnb : ((width l).2 != 0) = true := by rw [bne_iff_ne]; exact he
    have Hl := hide (show look l most = (0, 0, (width l).2) from by unfold look; rw [if_pos he])
    clear he
    go_enter Try.func28, Try.ntmps28
    go_wp2_with (first
      | (go_at_call 38
         refine (width_any _ _ _ l _ B (by omega) h).mono ?_
         rintro e w1 ⟨rfl, rfl⟩))
    go_ret3
    exact ⟨by rw [Hl.out]; rfl, rfl⟩
end Go.Proofs.Ytbckpcofcgapdaa.Vlq
