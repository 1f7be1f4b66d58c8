/-
  The walk of the law StampTurned: it returns true, and leaves all memory that was there as it was. No condition.
-/
import Derived.Test.YtlinjalgdhjbfaaStampAwake
namespace Go.Proofs.Ytlinjalgdhjbfaa.Stamp
open Go.RowKit
set_option linter.unusedVariables false
theorem turned_skip (A0 : Option Addr) (n0 c0 : Nat) (a b : Int) (w : World) (h : 5000 < n0) :
    Calls Try.prog 5 #[.slice A0 n0 c0, .int .u16 a, .int .u8 b] w fun e w' => e = .returned (.bool true) ∧ Below w.heap.size w w' := by
  go_enter Try.func5, Try.ntmps5
  go_wp2_with (first
    | (go_at_call 6
       refine (awake_any _).mono ?_
       rintro e w3 ⟨rfl, hb3⟩))
  go_ret
  exact ⟨rfl, hb3⟩
set_option maxHeartbeats 1600000 in
set_option maxRecDepth 100000 in
theorem turned_walk (A0 : Option Addr) (n0 c0 : Nat) (l0 : List UInt8) (a : Nat) (y : UInt8) (w : World) (h0 : n0 ≤ 5000) (ha : a < 65536)
    (hr0 : Reads w w.heap.size 1 A0 n0 (bcs l0)) :
    Calls Try.prog 5 #[.slice A0 n0 c0, .int .u16 (a : Int), .int .u8 (y.toNat : Int)] w fun e w' => e = .returned (.bool true) ∧ Below w.heap.size w w' := by
  obtain ⟨i0, hi0, hz0, hz1, hz2⟩ := info_parts info_u8
  have hln : l0.length = n0 := by have := hr0.1; rw [bcs_length] at this; omega
  have hO := own_empty w w.heap.size 5 (Nat.le_refl _)
  obtain ⟨S, HS⟩ : ∃ S, Hid (S = seal_ l0) := ⟨_, hide rfl⟩
  have hSl : S.length = n0 + 4 := by rw [HS.out, seal_length, hln]
  have Hop : Hid (opens S) := hide (by rw [HS.out]; exact seal_opens l0)
  have Htk : Hid (S.take n0 = l0) := hide (by rw [HS.out, ← hln]; exact seal_take l0)
  obtain ⟨i, Hi⟩ : ∃ i, Hid (i = a % (n0 + 4)) := ⟨_, hide rfl⟩
  have hin : i < n0 + 4 := by rw [Hi.out]; exact Nat.mod_lt _ (by omega)
  obtain ⟨z, hz⟩ : ∃ z, S[i]? = some z := ⟨S[i], by simp⟩
  have Hz := hide hz
  have HSl := hide hSl
  have Hln := hide hln
  clear hz hSl hln
  have him : (a : Int) % ((n0 : Int) + 4) = (i : Int) := by rw [Hi.out]; push_cast; rfl
  have hyl := y.toNat_lt
  have hzl := z.toNat_lt
  have hcv0 := conv_of (c := c0) hr0
  by_cases hzy : z = y
  · have hbe : ((z.toNat : Int) == (y.toNat : Int)) = true := by rw [hzy]; simp
    have Hzy := hide hzy
    clear hzy
    go_enter Try.func5, Try.ntmps5
    go_wp2_with (first
      | (go_at_call 11
         refine (seal_any A0 n0 c0 l0 _ (by omega) ((hr0.alloc (Nat.le_refl _) _).more (by simp))).mono ?_
         rw [← HS.out]
         rintro e w1 ⟨A1, n1, c1, rfl, hn1, hb1⟩
         obtain rfl : n1 = n0 + 4 := by rw [← HSl.out]; exact hn1.1
         have hO1 := own_below hO (hb1.mono (Nat.le_refl _))
         have hb1' : Below w.heap.size w w1 := ((Below.refl _ _).alloc (Nat.le_refl _) _).trans (hb1.mono (by simp))
         have hgl : w.heap.size < w1.heap.size := by have := hb1.size; simp at this; omega)
      | (at_builtin
         refine wpList_append_any _ rfl (.tmp 17) (.tmp 19) _ rfl w.heap.size 5 i0 _ 1 1 Try.underlying22 hi0 hz0 hz1 hz2 rfl (by omega) (.slice (some ⟨w.heap.size, 0, none⟩) 0 0) 0 [] rfl
           hO1 _ A1 _ c1 _ rfl hn1.2.2.2 (bcs_one _) (by simp only [maxLen]; omega) (by omega) hb1'.size ?_
         intro v2 w2 hown2 hg2 hat2
         have hb2 : Below w.heap.size w w2 := hb1'.grown hg2 hb1'.size (fun k hk => by simp [Value.ownBlock] at hk; omega)
         rw [List.nil_append, Nat.zero_add] at hown2
         obtain ⟨A2, c2, rfl, hn2⟩ := new_of_own hown2
         have hc2 := hn2.2.1
         clear hown2 hg2 hat2 hn1 hO1 hO)
      | (go_at_call 7
         refine (open_yes A2 n0 c2 S w2 (by omega) hc2 hn2.2.2.2 Hop.out).mono ?_
         rw [Htk.out]
         rintro e w3 ⟨A3, c3, rfl, hn3, hb3⟩
         have hb3' : Below w.heap.size w w3 := hb2.trans (hb3.mono hb2.size)
         have hcv3 := hn3.conv
         have hcv4 := conv_of (c := c0) (hr0.below hb3')
         have hst := str_toList
         obtain ⟨g, rfl, hgB, hgl3, hcell, hfz, hset⟩ := (hn2.below hb3).turn i z Hz.out)
      | (go_at_call 6
         refine (awake_any _).mono ?_
         rintro e w7 ⟨rfl, hb7⟩))
    go_ret
    exact ⟨rfl, hb3'.trans (hb7.mono hb3'.size)⟩

  · have HT : Hid (¬ opens (S.set i y)) := hide (by rw [HS.out]; exact turned l0 i z y (by rw [← HS.out]; exact Hz.out) hzy)
    have hbe : ((z.toNat : Int) == (y.toNat : Int)) = false := by
      rw [beq_eq_false_iff_ne]
      intro h
      exact hzy (UInt8.toNat_inj.1 (by omega))
    clear hzy
    go_enter Try.func5, Try.ntmps5
    go_wp2_with (first
      | (go_at_call 11
         refine (seal_any A0 n0 c0 l0 _ (by omega) ((hr0.alloc (Nat.le_refl _) _).more (by simp))).mono ?_
         rw [← HS.out]
         rintro e w1 ⟨A1, n1, c1, rfl, hn1, hb1⟩
         obtain rfl : n1 = n0 + 4 := by rw [← HSl.out]; exact hn1.1
         have hO1 := own_below hO (hb1.mono (Nat.le_refl _))
         have hb1' : Below w.heap.size w w1 := ((Below.refl _ _).alloc (Nat.le_refl _) _).trans (hb1.mono (by simp))
         have hgl : w.heap.size < w1.heap.size := by have := hb1.size; simp at this; omega)
      | (go_at_call 7
         refine (open_none _ (n0 + 4) c2 (S.set i y) _ (by omega) hc2 (hset y).2.2.2 HT.out).mono ?_
         rintro e w4 ⟨rfl, nd, rfl⟩
         have hb4 : Below w.heap.size w ((w3.setCell ⟨g, i, none⟩ (.int .u8 (y.toNat : Int))).drewN nd) := below_drewN (hb3'.setCell hgB _) nd)
      | (at_builtin
         refine wpList_append_any _ rfl (.tmp 17) (.tmp 19) _ rfl w.heap.size 5 i0 _ 1 1 Try.underlying22 hi0 hz0 hz1 hz2 rfl (by omega) (.slice (some ⟨w.heap.size, 0, none⟩) 0 0) 0 [] rfl
           hO1 _ A1 _ c1 _ rfl hn1.2.2.2 (bcs_one _) (by simp only [maxLen]; omega) (by omega) hb1'.size ?_
         intro v2 w2 hown2 hg2 hat2
         have hb2 : Below w.heap.size w w2 := hb1'.grown hg2 hb1'.size (fun k hk => by simp [Value.ownBlock] at hk; omega)
         rw [List.nil_append, Nat.zero_add] at hown2
         obtain ⟨A2, c2, rfl, hn2⟩ := new_of_own hown2
         have hc2 := hn2.2.1
         clear hown2 hg2 hat2 hn1 hO1 hO)
      | (go_at_call 7
         refine (open_yes A2 n0 c2 S w2 (by omega) hc2 hn2.2.2.2 Hop.out).mono ?_
         rw [Htk.out]
         rintro e w3 ⟨A3, c3, rfl, hn3, hb3⟩
         have hb3' : Below w.heap.size w w3 := hb2.trans (hb3.mono hb2.size)
         have hcv3 := hn3.conv
         have hcv4 := conv_of (c := c0) (hr0.below hb3')
         have hst := str_toList
         obtain ⟨g, rfl, hgB, hgl3, hcell, hfz, hset⟩ := (hn2.below hb3).turn i z Hz.out)
      | (go_at_call 6
         refine (awake_any _).mono ?_
         rintro e w7 ⟨rfl, hb7⟩))
    go_ret
    exact ⟨rfl, hb4.trans (hb7.mono hb4.size)⟩

end Go.Proofs.Ytlinjalgdhjbfaa.Stamp
