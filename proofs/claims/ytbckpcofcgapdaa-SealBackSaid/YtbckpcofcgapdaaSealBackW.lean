/-
  The walk of the law SealBack: it returns true, and leaves all memory that was there as it was. No condition.
-/
import Derived.Test.YtbckpcofcgapdaaSealAwake
namespace Go.Proofs.Ytbckpcofcgapdaa.Seal
open Go Go.RowKit Go.Lib Go.Proofs.Ytbckpcofcgapdaa.Wire
open Go.Proofs.Ytbckpcofcgapdaa.Label (runes fitL fit_any refFit_any)
open Go.Proofs.Ytbckpcofcgapdaa.Stamp (opens)
set_option linter.unusedVariables false
set_option maxHeartbeats 800000 in
set_option maxRecDepth 100000 in
theorem back_skip (nm : ByteArray) (A1 : Option Addr) (n1 c1 : Nat) (a : Int) (w : World) (h : 200 < nm.size ∨ fitL (runes nm 0) = false ∨ 5000 < n1) :
    Calls Try.prog 4 #[.string nm, .slice A1 n1 c1, .int .u16 a] w fun e w' => e = .returned (.bool true) ∧ Below w.heap.size w w' := by
  by_cases h0 : 200 < nm.size
  · clear h
    go_enter Try.func4, Try.ntmps4
    go_wp2_with (first
      | (go_at_call 5
         refine (awakeS_any _).mono ?_
         rintro e w3 ⟨rfl, hb3⟩))
    go_ret
    exact ⟨rfl, hb3⟩
  · have HF := hide (fun (wx : World) => refFit_any nm wx (by omega))
    cases hf : fitL (runes nm 0)
    · rw [hf] at HF
      clear h hf
      go_enter Try.func4, Try.ntmps4
      go_wp2_with (first
        | (go_at_call 10
           refine (HF.out _).mono ?_
           rintro e w1 ⟨rfl, hb1⟩)
        | (go_at_call 5
           refine (awakeS_any _).mono ?_
           rintro e w3 ⟨rfl, hb3⟩))
      go_ret
      exact ⟨rfl, hb1.trans (hb3.mono hb1.size)⟩
    · rw [hf] at HF h
      have h1 : 5000 < n1 := by
        rcases h with h | h | h
        · omega
        · cases h
        · exact h
      clear h hf
      go_enter Try.func4, Try.ntmps4
      go_wp2_with (first
        | (go_at_call 10
           refine (HF.out _).mono ?_
           rintro e w1 ⟨rfl, hb1⟩)
        | (go_at_call 5
           refine (awakeS_any _).mono ?_
           rintro e w3 ⟨rfl, hb3⟩))
      go_ret
      exact ⟨rfl, hb1.trans (hb3.mono hb1.size)⟩
set_option maxHeartbeats 1600000 in
set_option maxRecDepth 100000 in
theorem back_walk (nm : ByteArray) (A1 : Option Addr) (n1 c1 : Nat) (bd : List UInt8) (a : Nat) (w : World) (h0 : nm.size ≤ 200) (hf : fitL (runes nm 0) = true) (h1 : n1 ≤ 5000) (ha : a < 65536)
    (hr1 : Reads w w.heap.size 1 A1 n1 (bcs bd)) :
    Calls Try.prog 4 #[.string nm, .slice A1 n1 c1, .int .u16 (a : Int)] w fun e w' => e = .returned (.bool true) ∧ Below w.heap.size w w' := by
  obtain ⟨i0, hi0, hz0, hz1, hz2⟩ := info_parts info_u8
  have hl1 : bd.length = n1 := by have := hr1.1; rw [bcs_length] at this; omega
  have HF := hide (fun (wx : World) => refFit_any nm wx (by omega))
  rw [hf] at HF
  have hPl := packB_len hf (bd := bd) (by omega)
  have hPo := pack_open hf (bd := bd) (by omega)
  have HT0 := fun (i : Nat) (x y : UInt8) => pack_turned hf (bd := bd) (by omega) i x y
  have HP := hide (fun (wx : World) (h : Reads wx wx.heap.size 1 A1 n1 (bcs bd)) => pack_any nm A1 n1 c1 bd wx (by omega) h)
  unfold MakesB at HP
  generalize packB nm bd = S at *
  obtain ⟨N, hN⟩ : ∃ N, N = S.length := ⟨_, rfl⟩
  rw [← hN] at hPl
  obtain ⟨hN7, hN8⟩ := hPl
  have HO := hide (fun (A : Option Addr) (c : Nat) (wx : World) (hc : N ≤ c) (h : Reads wx wx.heap.size 1 A N (bcs S)) => open_any A N c S wx (by omega) hc h)
  unfold Opened at HO
  rw [hPo.1, hPo.2] at HO
  obtain ⟨i, Hi⟩ : ∃ i, Hid (i = a % N) := ⟨_, hide rfl⟩
  have hin : i < N := by rw [Hi.out]; exact Nat.mod_lt _ (by omega)
  obtain ⟨z, hz⟩ : ∃ z, S[i]? = some z := ⟨S[i]'(by omega), by rw [List.getElem?_eq_getElem]⟩
  have Hz := hide hz
  have HN := hide hN
  clear hz hN hl1 hPo hf
  have him : (a : Int) % (N : Int) = (i : Int) := by rw [Hi.out]; push_cast; rfl
  have hzl := z.toNat_lt
  have hO := own_empty w w.heap.size 5 (Nat.le_refl _)
  obtain ⟨y, Hy⟩ : ∃ y : UInt8, Hid (y = UInt8.ofNat (z.toNat + 1 + a / 256 % 255)) := ⟨_, hide rfl⟩
  have Hzy : Hid (z ≠ y) := hide (by
    rw [Hy.out]
    intro h
    have := congrArg UInt8.toNat h
    simp at this
    omega)
  have HT := hide (HT0 i z y Hz.out Hzy.out)
  clear HT0
  have HO2 := hide (fun (A : Option Addr) (c : Nat) (wx : World) (hc : N ≤ c) (h : Reads wx wx.heap.size 1 A N (bcs (S.set i y))) => open_any A N c (S.set i y) wx (by omega) hc h)
  unfold Opened at HO2
  rw [HT.out.2, openB_err (by rw [HT.out.2]; decide)] at HO2
  have hst := str_toList
  go_enter Try.func4, Try.ntmps4
  go_upto_region 8 with (first
    | (go_at_call 10
       refine (HF.out _).mono ?_
       rintro e w1 ⟨rfl, hb1⟩
       have hs1 := hb1.size
       have hO1 := own_empty w1 w1.heap.size 5 (Nat.le_refl _)
       have hrA := (hr1.below hb1).more hs1)
    | (go_at_call 8
       refine (HP.out _ ((hrA.alloc (Nat.le_refl _) _).more (by simp))).mono ?_
       rintro e w2 ⟨A2, n2, c2, rfl, hn2, hb2⟩
       obtain rfl : n2 = N := by rw [HN.out]; exact hn2.1
       have hO2 := own_below hO1 (hb2.mono (Nat.le_refl _))
       have hb2' : Below w.heap.size w w2 := (hb1.alloc hs1 _).trans (hb2.mono (by simp; omega))
       have hgl : w1.heap.size < w2.heap.size := by have := hb2.size; simp at this; omega)
    | (at_builtin
       refine wpList_append_any _ rfl (.tmp 29) (.tmp 32) _ rfl w1.heap.size 5 i0 _ 1 1 Try.underlying22 hi0 hz0 hz1 hz2 rfl (by omega) (.slice (some ⟨w1.heap.size, 0, none⟩) 0 0) 0 [] rfl
         hO2 _ A2 n2 c2 _ rfl hn2.2.2.2 (bcs_one _) (by simp only [maxLen]; omega) (by omega) (by omega) ?_
       intro v3 w3 hown3 hg3 hat3
       have hb3 : Below w.heap.size w w3 := hb2'.grown hg3 hb2'.size (fun k hk => by simp [Value.ownBlock] at hk; omega)
       rw [List.nil_append, Nat.zero_add] at hown3
       obtain ⟨A3, c3, rfl, hn3'⟩ := new_of_own hown3
       have hn3 := hn3'.less hs1
       have hc3 := hn3.2.1
       clear hown3 hg3 hat3 hn2 hO2 hO1 hn3')
    | (go_at_call 6
       refine (HO.out A3 c3 w3 hc3 hn3.2.2.2).mono ?_
       rintro e w4 ⟨A4, n4, c4, rfl, hn4, hb4⟩
       have hb4' : Below w.heap.size w w4 := hb3.trans (hb4.mono hb3.size)
       have hcv4 := hn4.conv
       have hcv5 := conv_of (c := c1) (hr1.below hb4')
       obtain ⟨g, rfl, hgB, hgl4, hcell, hfz, hset⟩ := (hn3.below hb4).turn i z Hz.out))
  go_upto_region 9 with fail
  have hyE : ((z.toNat : Int) + 1 + (a : Int) / 256 % 255) % 256 = (y.toNat : Int) := by
    rw [Hy.out, Stamp.ofNat_toNat]
    omega
  rw [hyE]
  have hn5 := hset y
  have hw5 : Below w.heap.size w (w4.setCell ⟨g, i, none⟩ (.int .u8 (y.toNat : Int))) := hb4'.setCell hgB _
  generalize w4.setCell ⟨g, i, none⟩ (.int .u8 (y.toNat : Int)) = w5 at *
  clear hset hcell hfz hcv4 hcv5 hyE
  go_wp2_with (first
    | (go_at_call 6
       refine (HO2.out _ c3 w5 hc3 hn5.2.2.2).mono ?_
       rintro e w6 ⟨A6, n6, c6, rfl, hn6, hb6⟩
       obtain rfl : n6 = 0 := hn6.1
       have hw6 : Below w.heap.size w w6 := hw5.trans (hb6.mono hw5.size))
    | (go_at_call 5
       refine (awakeS_any _).mono ?_
       rintro e w7 ⟨rfl, hb7⟩))
  go_ret
  exact ⟨rfl, hw6.trans (hb7.mono hw6.size)⟩
end Go.Proofs.Ytbckpcofcgapdaa.Seal
