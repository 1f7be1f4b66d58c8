/-
  The contract of the document's own look: it answers the plain mathematics' look, and leaves memory alone. Condition: no more than 2^40 bytes.
-/
import Derived.Test.YtbckpcofcgapdaaVlqNumber
namespace Go.Proofs.Ytbckpcofcgapdaa.Vlq
open Go.RowKit
set_option linter.unusedVariables false
set_option maxHeartbeats 800000 in
set_option maxRecDepth 100000 in
theorem look_any (l : List UInt8) (most : Int) (w : World) (hn : l.length ≤ 1099511627776) :
   Calls Try.prog 32 #[.string (str l), .int .i64 most] w fun e w' => e = .returned (.tuple #[.int .i64 (look l most).1, .int .i64 (look l most).2.1, .int .i64 (look l most).2.2]) ∧ w = w' := by
  by_cases h0 : l = []
  · subst h0
    have hb : (str []).toList.isEmpty = true := by rw [str, ByteArray.toList_mk]; rfl
    go_enter Try.func32, Try.ntmps32
    go_wp2
    go_ret3
    exact ⟨rfl, rfl⟩
  · have hs : 0 < (str l).size := by rw [str_size]; exact List.length_pos_iff.2 h0
    have hb : (str l).toList.isEmpty = false := by rw [str, ByteArray.toList_mk]; simpa using h0
    obtain ⟨z, hz⟩ : ∃ z, l[0]? = some z := ⟨l[0]'(List.length_pos_iff.2 h0), by simp [List.length_pos_iff.2 h0]⟩
    obtain ⟨_, hg⟩ := str_get l 0 z hz
    have Hz := hide hz
    have hsz1 : l.length ≤ (str l).size := by rw [str_size]; omega
    have hsz2 : (str l).size ≤ l.length := by rw [str_size]; omega
    clear hz h0
    by_cases h8 : z.toNat = 128
    · have hzb : ((z.toNat : Int) == 128) = true := by simp; omega
      have Hw := hide (show look l most = (0, 0, 3) from by unfold look; rw [width_128 l z Hz.out h8]; simp)
      clear h8
      go_enter Try.func32, Try.ntmps32
      go_wp2
      go_ret3
      exact ⟨by rw [Hw.out]; rfl, rfl⟩
    · have hzb : ((z.toNat : Int) == 128) = false := by simp; omega
      have Hw := hide (width_cons l z Hz.out h8)
      clear h8
      go_enter Try.func32, Try.ntmps32
      go_wp2
      go_loop [7] (fun t => ∃ i : Nat, i ≤ l.length ∧ i ≤ 6 ∧ t = .int .i64 (i : Int) ∧ ((i < 6 → wd (l.drop i) i = wd l 0) ∧ (i = 6 → wd l 0 = (0, 4)))) (fun t => l.length - (intOf t).toNat)
      case atStart => exact ⟨0, by omega, by omega, rfl, fun _ => rfl, fun h => by omega⟩
      case round =>
        obtain ⟨i, hi, hi6, rfl, hwd⟩ := hrel
        have Hwd := hide hwd
        clear hwd
        by_cases h6 : i < 6
        · have Hwe := hide (Hwd.out.1 h6)
          have h6b : ((i : Int) == 6) = false := by simp; omega
          by_cases hc : i < l.length
          · have hnb : ((i : Int) == ((str l).size : Int)) = false := by simp; omega
            obtain ⟨zi, hzi⟩ : ∃ z, l[i]? = some z := ⟨l[i], by simp [hc]⟩
            obtain ⟨hii, hgi⟩ := str_get l i zi hzi
            have Hzi := hide hzi
            clear hzi
            by_cases hz8 : zi.toNat < 128
            · have Hs := hide (wd_stop l i zi Hzi.out hz8)
              have HW : Hid (width l = (i + 1, 0)) := hide (by rw [Hw.out, ← Hwe.out, Hs.out])
              have HL : Hid (look l most = if 1099511627776 < val (l.take (i + 1)) ∨ most < (val (l.take (i + 1)) : Int) then (0, 0, 4) else (val (l.take (i + 1)), i + 1, 0)) := hide (by
                unfold look
                rw [HW.out]; simp)
              go_wp2
              go_loop [8, 9] (fun s t => ∃ j : Nat, j ≤ i + 1 ∧ t = .int .i64 (j : Int) ∧ s = .int .i64 (val (l.take j) : Int)) (fun _ t => i + 1 - (intOf t).toNat)
              case atStart => exact ⟨0, by omega, rfl, rfl⟩
              case round =>
                obtain ⟨j, hj, rfl, rfl⟩ := hrel
                by_cases hcj : j < i + 1
                · obtain ⟨zj, hzj⟩ : ∃ z, l[j]? = some z := ⟨l[j], by simp⟩
                  obtain ⟨hjj, hgj⟩ := str_get l j zj hzj
                  have Hv := hide (val_take l j zj hzj)
                  have hvl := val_take_lt l j 5 (by omega)
                  clear hzj
                  generalize val (l.take j) = y at *
                  go_wp2
                  go_round
                  case rel => exact ⟨j + 1, by omega, by go_num, by rw [Hv.out]; go_num⟩
                  case measure => simp [intOf]; omega
                · have : j = i + 1 := by omega
                  subst this
                  have hvl := val_take_lt l (i + 1) 6 (by omega)
                  generalize val (l.take (i + 1)) = y at *
                  by_cases h1 : 1099511627776 < y
                  · rw [if_pos (.inl h1)] at HL
                    go_wp2
                    go_ret3
                    exact ⟨by rw [HL.out]; rfl, rfl⟩
                  · by_cases h2 : most < (y : Int)
                    · rw [if_pos (.inr h2)] at HL
                      go_wp2
                      go_ret3
                      exact ⟨by rw [HL.out]; rfl, rfl⟩
                    · rw [if_neg (by omega)] at HL
                      go_wp2
                      go_ret3
                      exact ⟨by rw [HL.out]; exact ret_three rfl (by simp) rfl, rfl⟩
            · have Hs : Hid ((i + 1 < 6 → wd (l.drop (i + 1)) (i + 1) = wd l 0) ∧ (i + 1 = 6 → wd l 0 = (0, 4))) := hide ⟨fun h => by rw [← wd_drop l i zi Hzi.out hz8 (by omega), Hwe.out], fun h => by rw [← Hwe.out, wd_long l i zi Hzi.out hz8 h]⟩
              go_wp2
              go_round
              case rel => exact ⟨i + 1, by omega, by omega, by go_num, Hs.out⟩
              case measure => simp [intOf]; omega
          · have hnb : ((i : Int) == ((str l).size : Int)) = true := by simp; omega
            have HL : Hid (look l most = (0, 0, 2)) := hide (by
              unfold look
              rw [Hw.out, ← Hwe.out, wd_end l i (by omega)]; simp)
            go_wp2
            go_ret3
            exact ⟨by rw [HL.out]; rfl, rfl⟩
        · have h6b : ((i : Int) == 6) = true := by simp; omega
          have HL : Hid (look l most = (0, 0, 4)) := hide (by
              unfold look
              rw [Hw.out, Hwd.out.2 (by omega)]; simp)
          by_cases hc : i < l.length
          all_goals
            go_wp2
            go_ret3
            exact ⟨by rw [HL.out]; rfl, rfl⟩
end Go.Proofs.Ytbckpcofcgapdaa.Vlq
