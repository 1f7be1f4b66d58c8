/-
  The contracts of the program's On, Of and number, and of the document's own xor and Of: they answer the plain mathematics' sums. Condition: no more than 2^40 bytes.
-/
import Derived.Test.YtbckpcofcgapdaaWords
import Derived.Test.YtbckpcofcgapdaaStampMath
import Derived.Laws.BitsAllLaws
namespace Go.Proofs.Ytbckpcofcgapdaa.Stamp
open Go.RowKit
set_option linter.unusedVariables false
/-- A number below 2^32, behind a name that no arithmetic takes apart. -/
def cell (n : Nat) : Value := .int .u32 (n : Int)
theorem step_u32 (s c : Nat) (hs : s < 4294967296) (hc : c < 256) : IntKind.u32.wrap (bits .xor .u32 (s : Int) (c : Int) * 16777619) = ((step s c : Nat) : Int) := by
  rw [u32_xor_nat s c hs (by omega), IntKind.wrap_u32']
  unfold step
  generalize s ^^^ c = x
  omega
set_option maxHeartbeats 800000 in
set_option maxRecDepth 100000 in
theorem on_any (s : Nat) (A : Option Addr) (n c : Nat) (l : List UInt8) (w : World) (B : Nat) (hs : s < 4294967296) (hn : n ≤ 1099511627776) (h : Reads w B 1 A n (bcs l)) :
   Calls Try.prog 37 #[.int .u32 (s : Int), .slice A n c] w fun e w' => e = .returned (.int .u32 (on s l : Nat)) ∧ w = w' := by
  have hln : l.length = n := by have := h.1; rw [bcs_length] at this; omega
  have Hln := hide hln
  clear hln
  go_enter Try.func37, Try.ntmps37
  go_wp2
  go_loop [0, 9] (fun t u => ∃ i : Nat, i ≤ n ∧ u = .int .i64 (i : Int) ∧ t = .int .u32 (on s (l.take i) : Nat)) (fun _ u => n - (intOf u).toNat)
  case atStart => exact ⟨0, by omega, rfl, rfl⟩
  case round =>
    obtain ⟨i, hi, rfl, rfl⟩ := hrel
    by_cases hc : i < n
    · obtain ⟨ad, z, rfl, hbl, hz, hcell⟩ := bcs_at h hc
      have Hst : Hid (IntKind.u32.wrap (bits .xor .u32 ((on s (l.take i) : Nat) : Int) (z.toNat : Int) * 16777619) = ((on s (l.take (i + 1)) : Nat) : Int)) := hide (by
        rw [take_snoc' l i z hz, on_snoc]
        exact step_u32 _ _ (on_lt _ _ hs) z.toNat_lt)
      have hlt := on_lt s (l.take i) hs
      have hzl := z.toNat_lt
      clear hz
      go_wp2
      go_round
      case rel => exact ⟨i + 1, by omega, by go_num, by rw [← Hst.out]; go_num⟩
      case measure => simp [intOf]; omega
    · go_wp2
      go_ret
      exact ⟨by rw [List.take_of_length_le (by rw [Hln.out]; omega)]; rfl, rfl⟩
theorem sum_of (A : Option Addr) (n c : Nat) (l : List UInt8) (w : World) (B : Nat) (hn : n ≤ 1099511627776) (h : Reads w B 1 A n (bcs l)) :
   Calls Try.prog 26 #[.slice A n c] w fun e w' => e = .returned (.int .u32 (sum l : Nat)) ∧ w = w' := by
  have H := hide (on_any 2166136261 A n c l w B (by omega) hn h)
  go_enter Try.func26, Try.ntmps26
  go_wp2_with (first
    | (go_at_call 37
       refine H.out.mono ?_
       rintro e w1 ⟨rfl, rfl⟩))
  go_ret
  exact ⟨rfl, rfl⟩
theorem num_u32 (s c : Nat) (hs : s < 4294967296) (hc : c < 256) : bits .or .u32 (IntKind.u32.wrap ((s : Int) * 256)) (c : Int) = ((s * 256 % 4294967296 + c : Nat) : Int) := by
  rw [IntKind.wrap_u32', show (s : Int) * 256 % 4294967296 = ((s * 256 % 4294967296 : Nat) : Int) from by omega, u32_or_nat _ _ (by omega) (by omega), nat_join 8 _ _ (by omega) hc]
set_option maxHeartbeats 800000 in
set_option maxRecDepth 100000 in
theorem number_any (A : Option Addr) (n c : Nat) (l : List UInt8) (w : World) (B : Nat) (hn : n ≤ 1099511627776) (h : Reads w B 1 A n (bcs l)) :
   Calls Try.prog 25 #[.slice A n c] w fun e w' => e = .returned (.int .u32 (num l : Nat)) ∧ w = w' := by
  have hln : l.length = n := by have := h.1; rw [bcs_length] at this; omega
  have Hln := hide hln
  clear hln
  go_enter Try.func25, Try.ntmps25
  go_wp2
  go_loop [3, 8] (fun t u => ∃ i : Nat, i ≤ n ∧ u = .int .i64 (i : Int) ∧ t = .int .u32 (num (l.take i) : Nat)) (fun _ u => n - (intOf u).toNat)
  case atStart => exact ⟨0, by omega, rfl, rfl⟩
  case round =>
    obtain ⟨i, hi, rfl, rfl⟩ := hrel
    by_cases hc : i < n
    · obtain ⟨ad, z, rfl, hbl, hz, hcell⟩ := bcs_at h hc
      have Hst : Hid (bits .or .u32 (IntKind.u32.wrap (((num (l.take i) : Nat) : Int) * 256)) (z.toNat : Int) = ((num (l.take (i + 1)) : Nat) : Int)) := hide (by
        rw [take_snoc' l i z hz, num_snoc]
        exact num_u32 _ _ (num_lt _) z.toNat_lt)
      have hlt := num_lt (l.take i)
      have hzl := z.toNat_lt
      clear hz
      go_wp2
      go_round
      case rel => exact ⟨i + 1, by omega, by go_num, by rw [← Hst.out]; go_num⟩
      case measure => simp [intOf]; omega
    · go_wp2
      go_ret
      exact ⟨by rw [List.take_of_length_le (by rw [Hln.out]; omega)]; rfl, rfl⟩
set_option maxHeartbeats 800000 in
set_option maxRecDepth 100000 in
theorem xor_any (a b : Nat) (w : World) (ha : a < 256) (hb : b < 256) :
   Calls Try.prog 40 #[.int .i64 (a : Int), .int .i64 (b : Int)] w fun e w' => e = .returned (.int .i64 ((a ^^^ b : Nat) : Int)) ∧ w = w' := by
  have H8 := hide (low_8 a b ha hb)
  go_enter Try.func40, Try.ntmps40
  go_wp2
  go_loop [0, 1, 5, 6] (fun p q r s => ∃ k : Nat, k ≤ 8 ∧ p = .int .i64 ((a / 2 ^ k : Nat) : Int) ∧ q = .int .i64 ((b / 2 ^ k : Nat) : Int) ∧ r = .int .i64 (low a b k : Nat) ∧ s = .int .i64 ((2 ^ k : Nat) : Int)) (fun _ _ _ s => 256 - (intOf s).toNat)
  case atStart => exact ⟨0, by omega, by simp, by simp, by simp [low, Nat.mod_one], by simp⟩
  case round =>
    obtain ⟨k, hk, rfl, rfl, rfl, rfl⟩ := hrel
    have hlo := low_lt a b k
    have Hs := hide (low_succ a b k)
    have Ha : Hid (a / 2 ^ (k + 1) = a / 2 ^ k / 2) := hide (by rw [Nat.pow_succ, Nat.div_div_eq_div_mul])
    have Hb : Hid (b / 2 ^ (k + 1) = b / 2 ^ k / 2) := hide (by rw [Nat.pow_succ, Nat.div_div_eq_div_mul])
    have hx : a / 2 ^ k < 256 := Nat.lt_of_le_of_lt (Nat.div_le_self _ _) ha
    have hy : b / 2 ^ k < 256 := Nat.lt_of_le_of_lt (Nat.div_le_self _ _) hb
    have Hp : Hid (2 ^ (k + 1) = 2 ^ k * 2) := hide (Nat.pow_succ ..)
    have hp1 : 2 ^ k ≤ 256 := Nat.pow_le_pow_right (show 0 < 2 by omega) hk
    have hp0 : 0 < 2 ^ k := Nat.two_pow_pos k
    have Hlt : Hid (2 ^ k < 256 → k < 8) := hide (fun h => by
      rcases Nat.lt_or_ge k 8 with h8 | h8
      · exact h8
      · have := Nat.pow_le_pow_right (show 0 < 2 by omega) h8
        omega)
    have Hge : Hid (¬ 2 ^ k < 256 → k = 8) := hide (fun h => by
      rcases Nat.lt_or_ge k 8 with h8 | h8
      · have := Nat.pow_lt_pow_right (a := 2) (by omega) h8
        omega
      · omega)
    have HE : Hid (k = 8 → low a b k = a ^^^ b) := hide (fun h => by rw [h]; exact H8.out)
    clear ha hb
    generalize hP : 2 ^ k = P at *
    generalize hX : a / P = X at *
    generalize hY : b / P = Y at *
    generalize hL : low a b k = L at *
    clear hP hX hY hL
    by_cases hc : P < 256
    · have h8 := Hlt.out hc
      by_cases hd : X % 2 = Y % 2
      · have hd1 : ((X : Int) % 2 != (Y : Int) % 2) = false := by rw [bne_eq_false_iff_eq]; omega
        have hd2 := hide hd
        clear hd
        go_wp2
        go_round
        case rel => exact ⟨k + 1, by omega, by rw [Ha.out]; go_num, by rw [Hb.out]; go_num, by rw [Hs.out, if_neg (by rw [hd2.out]; simp)]; rfl, by rw [Hp.out]; go_num⟩
        case measure => simp [intOf]; omega
      · have hd1 : ((X : Int) % 2 != (Y : Int) % 2) = true := by rw [bne_iff_ne]; omega
        go_wp2
        go_round
        case rel => exact ⟨k + 1, by omega, by rw [Ha.out]; go_num, by rw [Hb.out]; go_num, by rw [Hs.out, if_pos hd]; go_num, by rw [Hp.out]; go_num⟩
        case measure => simp [intOf]; omega
    · have hk8 := Hge.out hc
      go_wp2
      go_ret
      exact ⟨by rw [HE.out hk8]; rfl, rfl⟩
end Go.Proofs.Ytbckpcofcgapdaa.Stamp
