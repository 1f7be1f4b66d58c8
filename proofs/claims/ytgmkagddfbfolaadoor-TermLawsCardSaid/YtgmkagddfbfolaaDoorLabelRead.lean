/-
  The contract of the document's own Rune: what stands at a place of any text is what a range over the text tells. Condition: the place is in the text, which has no more than 1,000,000,000 bytes.
-/
import Derived.Test.YtgmkagddfbfolaaDoorLabelWide
namespace Go.Proofs.YtgmkagddfbfolaaDoor.Label
open Go.RowKit Go.Lib
set_option linter.unusedVariables false
set_option maxHeartbeats 4000000 in
set_option maxRecDepth 100000 in
theorem refRune_any (s : ByteArray) (i : Nat) (w : World) (hs : s.size ≤ 1000000000) (hi : i < s.size) :
   Calls Tryd.prog 65 #[.string s, .int .i64 (i : Int)] w fun e w' => e = .returned (.tuple #[.int .i64 (rn s i : Nat), .int .i64 (wd s i : Nat)]) ∧ ∃ k, w' = w.drewN k := by
  have B0 : ∀ h : i < s.size, (s[i]'h).toNat = byt s i := fun h => byt_at s i h
  have hb0 := byt_lt s i
  have HW := hide (refWide_any s i w hs hi)
  by_cases c0 : byt s i < 128
  · have HD := hide (dec_one s i c0)
    clear HW
    go_enter Tryd.func65, Tryd.ntmps65
    go_wp2
    go_ret2
    exact ⟨by rw [HD.out.1, HD.out.2]; rfl, 0, rfl⟩
  · obtain ⟨n, hn⟩ : ∃ n, wideAt s i = n := ⟨_, rfl⟩
    rw [hn] at HW
    by_cases h0 : n = 0
    · have HD := hide (dec_wide s i hi (by omega) (hn.trans h0))
      clear hn
      subst h0
      go_enter Tryd.func65, Tryd.ntmps65
      go_wp2_with (first
        | (go_at_call 75
           refine HW.out.mono ?_
           rintro e w1 ⟨rfl, q, rfl⟩))
      go_ret2
      exact ⟨by rw [HD.out.1, HD.out.2]; rfl, _, rfl⟩
    · have hd := dec_good s i n hi (by omega) hn h0
      have hfit := wd_le s i hi
      rw [hd.2.1] at hfit
      have HD := hide (And.intro hd.1 hd.2.1)
      have h2 := hd.2.2.1
      have h4 := hd.2.2.2
      clear hd hn
      have hcase : n = 2 ∨ n = 3 ∨ n = 4 := by omega
      clear h0 h2 h4
      rcases hcase with rfl | rfl | rfl
      · have h0A : Hid (base (byt s i) 2 = byt s i % 32) := hide rfl
        have hbase := base_lt (byt s i) 2
        have Hacc := hide (acc_lt s i (base (byt s i) 2) hbase)
        have Hstep : Hid (∀ j, acc s i (base (byt s i) 2) (j + 1) = acc s i (base (byt s i) 2) j * 64 + byt s (i + (j + 1)) % 64) := hide (fun _ => rfl)
        have Hz : Hid (acc s i (base (byt s i) 2) 0 = byt s i % 32) := h0A
        clear h0A hbase
        generalize acc s i (base (byt s i) 2) = A at *
        go_enter Tryd.func65, Tryd.ntmps65
        go_upto_region 12 with (first
          | (go_at_call 75
             refine HW.out.mono ?_
             rintro e w1 ⟨rfl, q, rfl⟩))
        go_loopw [7, 8] (fun x u wr => ∃ j q : Nat, j ≤ 1 ∧ u = .int .i64 ((j + 1 : Nat) : Int) ∧ x = .int .i64 (A j : Nat) ∧ wr = w.drewN q) (fun _ u _ => 2 - (intOf u).toNat)
        case atStart => exact ⟨0, _, by omega, rfl, by rw [Hz.out]; exact ret_i (by omega), rfl⟩
        case round =>
          obtain ⟨j, q, hj, rfl, rfl, rfl⟩ := hrel
          clear HW
          have hA := Hacc.out j (by omega)
          by_cases hk : j < 1
          · have Bk : ∀ h : i + (j + 1) < s.size, (s[i + (j + 1)]'h).toNat = byt s (i + (j + 1)) := fun h => byt_at s (i + (j + 1)) h
            have Hs := hide (Hstep.out j)
            have hbk := byt_lt s (i + (j + 1))
            have hfit2 : i + (j + 1) < s.size := by omega
            clear Hstep Hacc HD Hz
            go_wp2
            go_roundw
            case rel => exact ⟨j + 1, q, by omega, by go_num, by rw [Hs.out]; exact ret_i (by omega), rfl⟩
            case measure => simp [intOf]; omega
          · have hj3 : j = 1 := by omega
            subst hj3
            clear Hstep Hacc Hz
            go_wp2
            go_ret2
            exact ⟨by rw [HD.out.1, HD.out.2]; rfl, _, rfl⟩
      · have h0A : Hid (base (byt s i) 3 = byt s i % 16) := hide rfl
        have hbase := base_lt (byt s i) 3
        have Hacc := hide (acc_lt s i (base (byt s i) 3) hbase)
        have Hstep : Hid (∀ j, acc s i (base (byt s i) 3) (j + 1) = acc s i (base (byt s i) 3) j * 64 + byt s (i + (j + 1)) % 64) := hide (fun _ => rfl)
        have Hz : Hid (acc s i (base (byt s i) 3) 0 = byt s i % 16) := h0A
        clear h0A hbase
        generalize acc s i (base (byt s i) 3) = A at *
        go_enter Tryd.func65, Tryd.ntmps65
        go_upto_region 12 with (first
          | (go_at_call 75
             refine HW.out.mono ?_
             rintro e w1 ⟨rfl, q, rfl⟩))
        go_loopw [7, 8] (fun x u wr => ∃ j q : Nat, j ≤ 2 ∧ u = .int .i64 ((j + 1 : Nat) : Int) ∧ x = .int .i64 (A j : Nat) ∧ wr = w.drewN q) (fun _ u _ => 3 - (intOf u).toNat)
        case atStart => exact ⟨0, _, by omega, rfl, by rw [Hz.out]; exact ret_i (by omega), rfl⟩
        case round =>
          obtain ⟨j, q, hj, rfl, rfl, rfl⟩ := hrel
          clear HW
          have hA := Hacc.out j (by omega)
          by_cases hk : j < 2
          · have Bk : ∀ h : i + (j + 1) < s.size, (s[i + (j + 1)]'h).toNat = byt s (i + (j + 1)) := fun h => byt_at s (i + (j + 1)) h
            have Hs := hide (Hstep.out j)
            have hbk := byt_lt s (i + (j + 1))
            have hfit2 : i + (j + 1) < s.size := by omega
            clear Hstep Hacc HD Hz
            go_wp2
            go_roundw
            case rel => exact ⟨j + 1, q, by omega, by go_num, by rw [Hs.out]; exact ret_i (by omega), rfl⟩
            case measure => simp [intOf]; omega
          · have hj3 : j = 2 := by omega
            subst hj3
            clear Hstep Hacc Hz
            go_wp2
            go_ret2
            exact ⟨by rw [HD.out.1, HD.out.2]; rfl, _, rfl⟩
      · have h0A : Hid (base (byt s i) 4 = byt s i % 8) := hide rfl
        have hbase := base_lt (byt s i) 4
        have Hacc := hide (acc_lt s i (base (byt s i) 4) hbase)
        have Hstep : Hid (∀ j, acc s i (base (byt s i) 4) (j + 1) = acc s i (base (byt s i) 4) j * 64 + byt s (i + (j + 1)) % 64) := hide (fun _ => rfl)
        have Hz : Hid (acc s i (base (byt s i) 4) 0 = byt s i % 8) := h0A
        clear h0A hbase
        generalize acc s i (base (byt s i) 4) = A at *
        go_enter Tryd.func65, Tryd.ntmps65
        go_upto_region 12 with (first
          | (go_at_call 75
             refine HW.out.mono ?_
             rintro e w1 ⟨rfl, q, rfl⟩))
        go_loopw [7, 8] (fun x u wr => ∃ j q : Nat, j ≤ 3 ∧ u = .int .i64 ((j + 1 : Nat) : Int) ∧ x = .int .i64 (A j : Nat) ∧ wr = w.drewN q) (fun _ u _ => 4 - (intOf u).toNat)
        case atStart => exact ⟨0, _, by omega, rfl, by rw [Hz.out]; exact ret_i (by omega), rfl⟩
        case round =>
          obtain ⟨j, q, hj, rfl, rfl, rfl⟩ := hrel
          clear HW
          have hA := Hacc.out j (by omega)
          by_cases hk : j < 3
          · have Bk : ∀ h : i + (j + 1) < s.size, (s[i + (j + 1)]'h).toNat = byt s (i + (j + 1)) := fun h => byt_at s (i + (j + 1)) h
            have Hs := hide (Hstep.out j)
            have hbk := byt_lt s (i + (j + 1))
            have hfit2 : i + (j + 1) < s.size := by omega
            clear Hstep Hacc HD Hz
            go_wp2
            go_roundw
            case rel => exact ⟨j + 1, q, by omega, by go_num, by rw [Hs.out]; exact ret_i (by omega), rfl⟩
            case measure => simp [intOf]; omega
          · have hj3 : j = 3 := by omega
            subst hj3
            clear Hstep Hacc Hz
            go_wp2
            go_ret2
            exact ⟨by rw [HD.out.1, HD.out.2]; rfl, _, rfl⟩
end Go.Proofs.YtgmkagddfbfolaaDoor.Label
