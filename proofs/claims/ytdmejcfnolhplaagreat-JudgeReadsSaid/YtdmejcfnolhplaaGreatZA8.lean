/-
  Some texts of this claim, one behind the other: VlqNumber, VlqLook, VlqReader, VlqReader2, VlqReader3, VlqReader4, VlqRefRd, VlqBackM. What each proves, and its condition, stands at its head.
-/
import Derived.Test.YtdmejcfnolhplaaGreatZA6
import Derived.Test.YtdmejcfnolhplaaGreatChecked
import Derived.Laws.BitsAllLaws
import Derived.Laws.BitsLemmas
/-
  The contracts of the program's width and number: they answer the plain mathematics' width and look, and leave memory alone. Condition: no more than 2^40 bytes.
-/
namespace Go.Proofs.YtdmejcfnolhplaaGreat.Vlq
open Go.RowKit
set_option linter.unusedVariables false
theorem ret_two {a b c d : Int} (h : a = c) (h' : b = d) : Ending.returned (.tuple #[.int .i64 a, .int .i64 b]) = .returned (.tuple #[.int .i64 c, .int .i64 d]) := by rw [h, h']
set_option maxHeartbeats 800000 in
set_option maxRecDepth 100000 in
theorem width_any (A : Option Addr) (n c : Nat) (l : List UInt8) (w : World) (B : Nat) (hn : n ≤ 1099511627776) (h : Reads w B 1 A n (bcs l)) :
   Calls Tryz.prog 172 #[.slice A n c] w fun e w' => e = .returned (.tuple #[.int .i64 (width l).1, .int .i64 (width l).2]) ∧ w = w' := by
  have hln : l.length = n := by have := h.1; rw [bcs_length] at this; omega
  have Hln := hide hln
  clear hln
  by_cases h0 : n = 0
  · subst h0
    have : l = [] := List.eq_nil_of_length_eq_zero Hln.out
    subst this
    go_enter Tryz.func172, Tryz.ntmps172
    go_wp2
    go_ret2
    exact ⟨rfl, rfl⟩
  · obtain ⟨ad, z0, rfl, hbl, hz0, hc0⟩ := bcs_at (k := 0) h (by omega)
    rw [add_zero'] at hc0
    have Hz0 := hide hz0
    clear hz0
    have hp : 0 < n := by omega
    have hnb : ((n : Int) == 0) = false := by simp; omega
    clear h0
    by_cases h8 : z0.toNat = 128
    · have hzb : ((z0.toNat : Int) == 128) = true := by simp; omega
      have Hw := hide (width_128 l z0 Hz0.out h8)
      clear h8
      go_enter Tryz.func172, Tryz.ntmps172
      go_wp2
      go_ret2
      exact ⟨by rw [Hw.out]; rfl, rfl⟩
    · have hzb : ((z0.toNat : Int) == 128) = false := by simp; omega
      have Hw := hide (width_cons l z0 Hz0.out h8)
      clear h8
      go_enter Tryz.func172, Tryz.ntmps172
      go_wp2
      go_loop [15] (fun t => ∃ i : Nat, i ≤ n ∧ i ≤ 5 ∧ t = .int .i64 (i : Int) ∧ wd (l.drop i) i = wd l 0) (fun t => n - (intOf t).toNat)
      case atStart => exact ⟨0, by omega, by omega, rfl, rfl⟩
      case round =>
        obtain ⟨i, hi, hi5, rfl, hwd⟩ := hrel
        have Hwd := hide hwd
        clear hwd
        by_cases hc : i < n
        · obtain ⟨ad', z, hA, _, hz, hcell⟩ := bcs_at (k := i) h hc
          injection hA with hA
          subst hA
          have Hz := hide hz
          clear hz
          by_cases hz8 : z.toNat < 128
          · have Hs := hide (wd_stop l i z Hz.out hz8)
            go_wp2
            go_ret2
            exact ⟨by rw [Hw.out, ← Hwd.out, Hs.out]; exact ret_two (by simp) rfl, rfl⟩
          · by_cases h6 : i + 1 = 6
            · have Hs := hide (wd_long l i z Hz.out hz8 h6)
              have h6b : ((i : Int) + 1 == 6) = true := by simp; omega
              clear h6
              go_wp2
              go_ret2
              exact ⟨by rw [Hw.out, ← Hwd.out, Hs.out]; exact ret_two (by simp) rfl, rfl⟩
            · have Hs := hide (wd_drop l i z Hz.out hz8 h6)
              have h6b : ((i : Int) + 1 == 6) = false := by simp; omega
              have h65 : i + 1 ≤ 5 := by omega
              clear h6
              go_wp2
              go_round
              case rel => exact ⟨i + 1, by omega, h65, by go_num, by rw [← Hs.out, Hwd.out]⟩
              case measure => simp [intOf]; omega
        · have Hs := hide (wd_end l i (by have := Hln.out; omega))
          go_wp2
          go_ret2
          exact ⟨by rw [Hw.out, ← Hwd.out, Hs.out]; exact ret_two (by simp) rfl, rfl⟩
theorem ret_three {a b c d e f : Int} (h : a = d) (h' : b = e) (h'' : c = f) : Ending.returned (.tuple #[.int .i64 a, .int .i64 b, .int .i64 c]) = .returned (.tuple #[.int .i64 d, .int .i64 e, .int .i64 f]) := by rw [h, h', h'']
theorem ofInt_i64 (a : Nat) (ha : a < 9223372036854775808) : (BitVec.ofInt 64 (a : Int)).toNat = a := by
  rw [BitVec.ofInt_natCast, BitVec.toNat_ofNat]; exact Nat.mod_eq_of_lt (by omega)
theorem i64_or_nat (a b : Nat) (ha : a < 9223372036854775808) (hb : b < 9223372036854775808) : bits .or .i64 (a : Int) (b : Int) = ((a ||| b : Nat) : Int) := by
  have hx : a ||| b < 2 ^ 63 := Nat.or_lt_two_pow (by omega) (by omega)
  show IntKind.i64.wrap ((BitVec.ofInt 64 (a : Int) ||| BitVec.ofInt 64 (b : Int)).toNat : Int) = _
  rw [BitVec.toNat_or, ofInt_i64 a ha, ofInt_i64 b hb, IntKind.wrap_i64]
  omega
theorem or_digit (y : Nat) (z : UInt8) (hy : y < 128 ^ 5) : bits .or .i64 ((y : Int) * 128) (wrap64 (bits .andNot .u8 (z.toNat : Int) 128)) = ((y * 128 + z.toNat % 128 : Nat) : Int) := by
  have h1 := andNot128_all ⟨z.toNat, z.toNat_lt⟩
  simp only at h1
  rw [h1]
  have h2 : (UInt8.ofNat (z.toNat % 128)).toNat = z.toNat % 128 := by simp; omega
  rw [h2, show wrap64 ((z.toNat % 128 : Nat) : Int) = ((z.toNat % 128 : Nat) : Int) from by unfold wrap64; omega]
  have h3 : ((y : Int) * 128) = ((y * 128 : Nat) : Int) := by omega
  rw [h3, i64_or_nat _ _ (by omega) (by omega)]
  have h4 : y * 128 ||| z.toNat % 128 = y * 128 + z.toNat % 128 := by
    have := Nat.shiftLeft_add_eq_or_of_lt (b := z.toNat % 128) (i := 7) (by omega) y
    rw [Nat.shiftLeft_eq] at this
    exact this.symm
  rw [h4]
set_option maxHeartbeats 800000 in
set_option maxRecDepth 100000 in
theorem number_any (A : Option Addr) (n c : Nat) (l : List UInt8) (most : Int) (w : World) (B : Nat) (hn : n ≤ 1099511627776) (hnc : n ≤ c) (h : Reads w B 1 A n (bcs l)) :
   Calls Tryz.prog 156 #[.slice A n c, .int .i64 most] w fun e w' => e = .returned (.tuple #[.int .i64 (look l most).1, .int .i64 (look l most).2.1, .int .i64 (look l most).2.2]) ∧ w = w' := by
  have hln : l.length = n := by have := h.1; rw [bcs_length] at this; omega
  have hw := width_le l
  rw [hln] at hw
  have Hln := hide hln
  clear hln
  by_cases he : (width l).2 = 0
  · obtain ⟨k, Hk⟩ : ∃ k, Hid (k = (width l).1) := ⟨_, hide rfl⟩
    have Hw := hide (show width l = (k, 0) from by rw [Hk.out, ← he])
    have hk6 : k ≤ 6 := by rw [Hk.out]; omega
    have hkn : k ≤ n := by rw [Hk.out]; omega
    have hL : look l most = if 1099511627776 < val (l.take k) ∨ most < (val (l.take k) : Int) then (0, 0, 4) else (val (l.take k), k, 0) := by
      unfold look
      rw [Hw.out]; simp
    have HL := hide hL
    clear hL he hw
    have hr := h.take hkn
    rw [bcs_take] at hr
    go_enter Tryz.func156, Tryz.ntmps156
    go_wp2_with (first
      | (go_at_call 172
         refine (width_any _ _ _ l _ B (by omega) h).mono ?_
         rw [Hw.out]
         rintro e w1 ⟨rfl, rfl⟩))
    go_loop [9, 24] (fun s t => ∃ i : Nat, i ≤ k ∧ t = .int .i64 (i : Int) ∧ s = .int .i64 (val (l.take i) : Int)) (fun _ t => k - (intOf t).toNat)
    case atStart => exact ⟨0, by omega, rfl, rfl⟩
    case round =>
      obtain ⟨i, hi, rfl, rfl⟩ := hrel
      by_cases hc : i < k
      · obtain ⟨ad, z, rfl, hbl, hz, hcell⟩ := bcs_at (k := i) h (by omega)
        have Hz := hide hz
        clear hz
        have Hs := hide (val_take l i z Hz.out)
        have hv := val_take_lt l i 5 (by omega)
        generalize val (l.take i) = y at *
        go_wp2
        go_round
        case rel => exact ⟨i + 1, by omega, by go_num, by rw [Hs.out, or_digit y z hv]⟩
        case measure => simp [intOf]; omega
      · have : i = k := by omega
        subst this
        have hv := val_take_lt l i 6 (by omega)
        generalize val (l.take i) = y at *
        by_cases h1 : 1099511627776 < y
        · rw [if_pos (.inl h1)] at HL
          go_wp2
          go_ret3
          exact ⟨by rw [HL.out]; rfl, rfl⟩
        · by_cases h2 : most < (y : Int)
          · rw [if_pos (.inr h2)] at HL
            go_wp2
            go_ret3
            exact ⟨by rw [HL.out]; rfl, rfl⟩
          · rw [if_neg (by omega)] at HL
            go_wp2
            go_ret3
            exact ⟨by rw [HL.out]; rfl, rfl⟩
  · have hnb : ((width l).2 != 0) = true := by rw [bne_iff_ne]; exact he
    have Hl := hide (show look l most = (0, 0, (width l).2) from by unfold look; rw [if_pos he])
    clear he
    go_enter Tryz.func156, Tryz.ntmps156
    go_wp2_with (first
      | (go_at_call 172
         refine (width_any _ _ _ l _ B (by omega) h).mono ?_
         rintro e w1 ⟨rfl, rfl⟩))
    go_ret3
    exact ⟨by rw [Hl.out]; rfl, rfl⟩
end Go.Proofs.YtdmejcfnolhplaaGreat.Vlq
/-
  The contract of the document's own look: it answers the plain mathematics' look, and leaves memory alone. Condition: no more than 2^40 bytes.
-/
namespace Go.Proofs.YtdmejcfnolhplaaGreat.Vlq
open Go.RowKit
set_option linter.unusedVariables false
set_option maxHeartbeats 800000 in
set_option maxRecDepth 100000 in
theorem look_any (l : List UInt8) (most : Int) (w : World) (hn : l.length ≤ 1099511627776) :
   Calls Tryz.prog 140 #[.string (str l), .int .i64 most] w fun e w' => e = .returned (.tuple #[.int .i64 (look l most).1, .int .i64 (look l most).2.1, .int .i64 (look l most).2.2]) ∧ w = w' := by
  by_cases h0 : l = []
  · subst h0
    have hb : (str []).toList.isEmpty = true := by rw [str, ByteArray.toList_mk]; rfl
    go_enter Tryz.func140, Tryz.ntmps140
    go_wp2
    go_ret3
    exact ⟨rfl, rfl⟩
  · have hs : 0 < (str l).size := by rw [str_size]; exact List.length_pos_iff.2 h0
    have hb : (str l).toList.isEmpty = false := by rw [str, ByteArray.toList_mk]; simpa using h0
    obtain ⟨z, hz⟩ : ∃ z, l[0]? = some z := ⟨l[0]'(List.length_pos_iff.2 h0), by simp [List.length_pos_iff.2 h0]⟩
    obtain ⟨_, hg⟩ := str_get l 0 z hz
    have Hz := hide hz
    have hsz1 : l.length ≤ (str l).size := by rw [str_size]; omega
    have hsz2 : (str l).size ≤ l.length := by rw [str_size]; omega
    clear hz h0
    by_cases h8 : z.toNat = 128
    · have hzb : ((z.toNat : Int) == 128) = true := by simp; omega
      have Hw := hide (show look l most = (0, 0, 3) from by unfold look; rw [width_128 l z Hz.out h8]; simp)
      clear h8
      go_enter Tryz.func140, Tryz.ntmps140
      go_wp2
      go_ret3
      exact ⟨by rw [Hw.out]; rfl, rfl⟩
    · have hzb : ((z.toNat : Int) == 128) = false := by simp; omega
      have Hw := hide (width_cons l z Hz.out h8)
      clear h8
      go_enter Tryz.func140, Tryz.ntmps140
      go_wp2
      go_loop [7] (fun t => ∃ i : Nat, i ≤ l.length ∧ i ≤ 6 ∧ t = .int .i64 (i : Int) ∧ ((i < 6 → wd (l.drop i) i = wd l 0) ∧ (i = 6 → wd l 0 = (0, 4)))) (fun t => l.length - (intOf t).toNat)
      case atStart => exact ⟨0, by omega, by omega, rfl, fun _ => rfl, fun h => by omega⟩
      case round =>
        obtain ⟨i, hi, hi6, rfl, hwd⟩ := hrel
        have Hwd := hide hwd
        clear hwd
        by_cases h6 : i < 6
        · have Hwe := hide (Hwd.out.1 h6)
          have h6b : ((i : Int) == 6) = false := by simp; omega
          by_cases hc : i < l.length
          · have hnb : ((i : Int) == ((str l).size : Int)) = false := by simp; omega
            obtain ⟨zi, hzi⟩ : ∃ z, l[i]? = some z := ⟨l[i], by simp [hc]⟩
            obtain ⟨hii, hgi⟩ := str_get l i zi hzi
            have Hzi := hide hzi
            clear hzi
            by_cases hz8 : zi.toNat < 128
            · have Hs := hide (wd_stop l i zi Hzi.out hz8)
              have HW : Hid (width l = (i + 1, 0)) := hide (by rw [Hw.out, ← Hwe.out, Hs.out])
              have HL : Hid (look l most = if 1099511627776 < val (l.take (i + 1)) ∨ most < (val (l.take (i + 1)) : Int) then (0, 0, 4) else (val (l.take (i + 1)), i + 1, 0)) := hide (by
                unfold look
                rw [HW.out]; simp)
              go_wp2
              go_loop [8, 9] (fun s t => ∃ j : Nat, j ≤ i + 1 ∧ t = .int .i64 (j : Int) ∧ s = .int .i64 (val (l.take j) : Int)) (fun _ t => i + 1 - (intOf t).toNat)
              case atStart => exact ⟨0, by omega, rfl, rfl⟩
              case round =>
                obtain ⟨j, hj, rfl, rfl⟩ := hrel
                by_cases hcj : j < i + 1
                · obtain ⟨zj, hzj⟩ : ∃ z, l[j]? = some z := ⟨l[j], by simp⟩
                  obtain ⟨hjj, hgj⟩ := str_get l j zj hzj
                  have Hv := hide (val_take l j zj hzj)
                  have hvl := val_take_lt l j 5 (by omega)
                  clear hzj
                  generalize val (l.take j) = y at *
                  go_wp2
                  go_round
                  case rel => exact ⟨j + 1, by omega, by go_num, by rw [Hv.out]; go_num⟩
                  case measure => simp [intOf]; omega
                · have : j = i + 1 := by omega
                  subst this
                  have hvl := val_take_lt l (i + 1) 6 (by omega)
                  generalize val (l.take (i + 1)) = y at *
                  by_cases h1 : 1099511627776 < y
                  · rw [if_pos (.inl h1)] at HL
                    go_wp2
                    go_ret3
                    exact ⟨by rw [HL.out]; rfl, rfl⟩
                  · by_cases h2 : most < (y : Int)
                    · rw [if_pos (.inr h2)] at HL
                      go_wp2
                      go_ret3
                      exact ⟨by rw [HL.out]; rfl, rfl⟩
                    · rw [if_neg (by omega)] at HL
                      go_wp2
                      go_ret3
                      exact ⟨by rw [HL.out]; exact ret_three rfl (by simp) rfl, rfl⟩
            · have Hs : Hid ((i + 1 < 6 → wd (l.drop (i + 1)) (i + 1) = wd l 0) ∧ (i + 1 = 6 → wd l 0 = (0, 4))) := hide ⟨fun h => by rw [← wd_drop l i zi Hzi.out hz8 (by omega), Hwe.out], fun h => by rw [← Hwe.out, wd_long l i zi Hzi.out hz8 h]⟩
              go_wp2
              go_round
              case rel => exact ⟨i + 1, by omega, by omega, by go_num, Hs.out⟩
              case measure => simp [intOf]; omega
          · have hnb : ((i : Int) == ((str l).size : Int)) = true := by simp; omega
            have HL : Hid (look l most = (0, 0, 2)) := hide (by
              unfold look
              rw [Hw.out, ← Hwe.out, wd_end l i (by omega)]; simp)
            go_wp2
            go_ret3
            exact ⟨by rw [HL.out]; rfl, rfl⟩
        · have h6b : ((i : Int) == 6) = true := by simp; omega
          have HL : Hid (look l most = (0, 0, 4)) := hide (by
              unfold look
              rw [Hw.out, Hwd.out.2 (by omega)]; simp)
          by_cases hc : i < l.length
          all_goals
            go_wp2
            go_ret3
            exact ⟨by rw [HL.out]; rfl, rfl⟩
end Go.Proofs.YtdmejcfnolhplaaGreat.Vlq
/-
  What a reader holds in memory, and the contracts of the program's Open, Err, Left, Close and Bad. Condition: no more than 2^40 bytes.
-/
namespace Go.Proofs.YtdmejcfnolhplaaGreat.Vlq
open Go.RowKit
set_option linter.unusedVariables false
def RdV (w : World) (g : Nat) (l : List UInt8) (i : Nat) (e : Int) : Prop :=
  ∃ A c, Blk w g 183 #[.slice A l.length c, .int .i64 (i : Int), .int .i64 e] ∧ Reads w g 1 A l.length (bcs l) ∧ i ≤ l.length ∧ l.length ≤ c ∧ l.length ≤ 1099511627776
theorem RdV.lt {w : World} {g : Nat} {l : List UInt8} {i : Nat} {e : Int} (h : RdV w g l i e) : g < w.heap.size := by
  obtain ⟨A, c, hb, _⟩ := h
  exact hb.lt
theorem RdV.below {w w' : World} {g B : Nat} {l : List UInt8} {i : Nat} {e : Int} (h : RdV w g l i e) (hb : Below B w w') (hg : g < B) : RdV w' g l i e := by
  obtain ⟨A, c, hk, hr, h3⟩ := h
  exact ⟨A, c, hk.below hb hg, hr.below (hb.mono (Nat.le_of_lt hg)), h3⟩
theorem RdV.grown {w w' : World} {g : Nat} {row : Option Nat} {l : List UInt8} {i : Nat} {e : Int} (h : RdV w g l i e) (hb : w.grownBy w' row) (hg : ∀ k, row = some k → g < k) : RdV w' g l i e := by
  have hlt := h.lt
  obtain ⟨A, c, hk, hr, h3⟩ := h
  exact ⟨A, c, hk.grown hb (fun e => by have := hg g e.symm; omega), hr.grown hb (Nat.le_of_lt hlt) (fun k hk => Nat.le_of_lt (hg k hk)), h3⟩
set_option maxHeartbeats 800000 in
set_option maxRecDepth 100000 in
theorem open_any (A : Option Addr) (n c : Nat) (l : List UInt8) (w : World) (hn : n ≤ 1099511627776) (h : Reads w w.heap.size 1 A n (bcs l)) :
   Calls Tryz.prog 95 #[.slice A n c] w fun e w' => ∃ g, e = .returned (.pointer (some ⟨g, 0, none⟩)) ∧ w.heap.size ≤ g ∧ RdV w' g l 0 0 ∧ Below w.heap.size w w' := by
  obtain ⟨i0, hi0, hz0, hz1, hz2⟩ := info_parts info_u8
  have hln : l.length = n := by have := h.1; rw [bcs_length] at this; omega
  subst hln
  have hmk := run_make_rowN (P := Tryz.prog) 55 5 i0 _ Tryz.underlying55 hi0 hz0 .i64 .i64 l.length l.length (Nat.le_refl _) (by rw [hz2]; omega) (by omega)
  rw [hz1] at hmk
  obtain ⟨M, HM⟩ : ∃ M, Hid (M = madeCells (Value.int .u8 0).cells (l.length * 1)) := ⟨_, hide rfl⟩
  rw [← HM.out] at hmk
  have HMl : Hid (M.toList.length = l.length) := hide (by rw [HM.out]; simp [size_madeCells])
  have HMs : Hid (M.size = l.length) := hide (by rw [HM.out]; simp [size_madeCells])
  have hr2 := h.alloc (Nat.le_refl _) (.cells M 5)
  go_enter Tryz.func95, Tryz.ntmps95
  go_wp2_with (first
    | (refine wpList_copy_whole (o := ⟨some 9, _, _, _, _, _⟩) rfl (.tmp 7) (.tmp 8) 55 55 rfl 5 Tryz.underlying55 info_u8' w.heap.size l.length _ _ A rfl rfl M 5
         (heap_alloc_new w _) HMs.out (bcs l) _ hr2 (bcs_one _) w.heap.size w ((Below.refl _ _).alloc (Nat.le_refl _) _) (Nat.le_refl _) ?_
       intro w2 hg2 hb2))
  have hsz : w.heap.size < w2.heap.size := by
    have h2 := hg2.out
    exact (Array.getElem?_eq_some_iff.1 h2).1
  go_ret
  refine ⟨_, rfl, by omega, ?_, hb2.alloc (Nat.le_of_lt hsz) _⟩
  refine ⟨_, _, Blk.new _ _ _, ⟨by rw [bcs_length]; omega, fun hp => ⟨_, rfl, by simpa using hsz, fun j u hu => ?_⟩⟩, Nat.zero_le _, Nat.le_refl _, hn⟩
  have hcell : Blk w2 w.heap.size 5 (bcs l).toArray := hg2.out
  have h3 := (hcell.alloc (.cells #[.slice (some ⟨w.heap.size, 0, none⟩) l.length l.length, .int .i64 0, .int .i64 0] 183)).cell j
  have hadd : (⟨w.heap.size, 0, none⟩ : Addr).add j = ⟨w.heap.size, j, none⟩ := by unfold Addr.add; split <;> simp_all
  rw [hadd]
  simpa [hu] using h3
end Go.Proofs.YtdmejcfnolhplaaGreat.Vlq
/-
  The contracts of the program's Err, Left, Close and Bad, over a reader and over none. No condition beyond the reader's own.
-/
namespace Go.Proofs.YtdmejcfnolhplaaGreat.Vlq
open Go.RowKit
set_option linter.unusedVariables false
theorem RdV.cells {w : World} {g : Nat} {l : List UInt8} {i : Nat} {e : Int} (h : RdV w g l i e) :
   ∃ A c, w.cell? ⟨g, 0, none⟩ = some (.slice A l.length c) ∧ w.cell? ⟨g, 1, none⟩ = some (.int .i64 (i : Int)) ∧ w.cell? ⟨g, 2, none⟩ = some (.int .i64 e) ∧ w.frozen? ⟨g, 1, none⟩ = false ∧ w.frozen? ⟨g, 2, none⟩ = false ∧
     Reads w g 1 A l.length (bcs l) ∧ i ≤ l.length ∧ l.length ≤ c ∧ l.length ≤ 1099511627776 := by
  obtain ⟨A, c, hk, hr, h3⟩ := h
  exact ⟨A, c, (hk.cell 0).trans rfl, (hk.cell 1).trans rfl, (hk.cell 2).trans rfl, hk.frozen 1, hk.frozen 2, hr, h3⟩
theorem RdV.setAt {w : World} {g : Nat} {l : List UInt8} {i : Nat} {e : Int} (h : RdV w g l i e) (j : Nat) (hj : j ≤ l.length) : RdV (w.setCell ⟨g, 1, none⟩ (.int .i64 (j : Int))) g l j e := by
  obtain ⟨A, c, hk, hr, h3⟩ := h
  exact ⟨A, c, hk.set_ 1 _, hr.setCell (Nat.le_refl _) _, hj, h3.2⟩
theorem RdV.setErr {w : World} {g : Nat} {l : List UInt8} {i : Nat} {e : Int} (h : RdV w g l i e) (e' : Int) : RdV (w.setCell ⟨g, 2, none⟩ (.int .i64 e')) g l i e' := by
  obtain ⟨A, c, hk, hr, h3⟩ := h
  exact ⟨A, c, hk.set_ 2 _, hr.setCell (Nat.le_refl _) _, h3⟩
theorem RdV.drewN {w : World} {g : Nat} {l : List UInt8} {i : Nat} {e : Int} (h : RdV w g l i e) (n : Nat) : RdV (w.drewN n) g l i e := h
theorem err_any (g : Nat) (l : List UInt8) (i : Nat) (er : Int) (w : World) (h : RdV w g l i er) :
   Calls Tryz.prog 137 #[.pointer (some ⟨g, 0, none⟩)] w fun e w' => e = .returned (.int .i64 er) ∧ w = w' := by
  obtain ⟨A, c, hc0, hc1, hc2, hf1, hf2, hr, hi, hlc, hl⟩ := h.cells
  go_enter Tryz.func137, Tryz.ntmps137
  go_wp2
  go_ret
  exact ⟨rfl, rfl⟩
set_option maxHeartbeats 800000 in
theorem left_any (g : Nat) (l : List UInt8) (i : Nat) (er : Int) (w : World) (h : RdV w g l i er) :
   Calls Tryz.prog 138 #[.pointer (some ⟨g, 0, none⟩)] w fun e w' => e = .returned (.int .i64 ((l.length : Int) - i)) ∧ ∃ n, w' = w.drewN n := by
  obtain ⟨A, c, hc0, hc1, hc2, hf1, hf2, hr, hi, hlc, hl⟩ := h.cells
  go_enter Tryz.func138, Tryz.ntmps138
  go_wp2
  go_quiet (fail)
  go_wp2
  go_ret
  exact ⟨rfl, _, rfl⟩
def closed (l : List UInt8) (i : Nat) (e : Int) : Int := if e ≠ 0 then e else if i < l.length then 3 else 0
set_option maxHeartbeats 800000 in
theorem close_any (g : Nat) (l : List UInt8) (i : Nat) (er : Int) (w : World) (h : RdV w g l i er) :
   Calls Tryz.prog 97 #[.pointer (some ⟨g, 0, none⟩)] w fun e w' => e = .returned (.int .i64 (closed l i er)) ∧ ∃ n, w' = w.drewN n := by
  have hil : i ≤ l.length := h.cells.elim fun _ h => h.elim fun _ h => h.2.2.2.2.2.2.1
  by_cases he : er = 0
  · subst he
    by_cases hi : i < l.length
    · have Hc : Hid (closed l i 0 = 3) := hide (by simp [closed, hi])
      go_enter Tryz.func97, Tryz.ntmps97
      go_wp2_with (first
        | (go_at_call 137
           refine (err_any g l i 0 _ h).mono ?_
           rintro e w1 ⟨rfl, rfl⟩)
        | (go_at_call 138
           refine (left_any g l i 0 _ h).mono ?_
           rintro e w1 ⟨rfl, n, rfl⟩))
      go_ret
      exact ⟨by rw [Hc.out]; rfl, _, rfl⟩
    · have Hc : Hid (closed l i 0 = 0) := hide (by simp [closed, hi])
      go_enter Tryz.func97, Tryz.ntmps97
      go_wp2_with (first
        | (go_at_call 137
           refine (err_any g l i 0 _ h).mono ?_
           rintro e w1 ⟨rfl, rfl⟩)
        | (go_at_call 138
           refine (left_any g l i 0 _ h).mono ?_
           rintro e w1 ⟨rfl, n, rfl⟩))
      go_ret
      exact ⟨by rw [Hc.out]; rfl, _, rfl⟩
  · have hnb : (er != 0) = true := by rw [bne_iff_ne]; exact he
    have Hc : Hid (closed l i er = er) := hide (by simp [closed, he])
    clear he
    go_enter Tryz.func97, Tryz.ntmps97
    go_wp2_with (first
      | (go_at_call 137
         refine (err_any g l i er _ h).mono ?_
         rintro e w1 ⟨rfl, rfl⟩))
    go_ret
    exact ⟨by rw [Hc.out]; rfl, 0, rfl⟩
def bad (e b : Int) : Int := if e = 0 then b else e
end Go.Proofs.YtdmejcfnolhplaaGreat.Vlq
/-
  The contracts of the program's Num and Str, over a reader and over none. No condition beyond the reader's own.
-/
namespace Go.Proofs.YtdmejcfnolhplaaGreat.Vlq
open Go.RowKit
set_option linter.unusedVariables false
theorem number_q (A : Option Addr) (n c : Nat) (l : List UInt8) (most : Int) (w : World) (B : Nat) (hn : n ≤ 1099511627776) (hnc : n ≤ c) (h : Reads w B 1 A n (bcs l)) (q1 q2 : Nat) (q3 : Int) (hq : (q1, q2, q3) = look l most) :
   Calls Tryz.prog 156 #[.slice A n c, .int .i64 most] w fun e w' => e = .returned (.tuple #[.int .i64 q1, .int .i64 q2, .int .i64 q3]) ∧ w = w' := by
  have := number_any A n c l most w B hn hnc h
  rw [← hq] at this
  exact this
def numR (l : List UInt8) (i : Nat) (er most : Int) : Int × Nat × Int :=
  if er ≠ 0 then (0, i, er) else ((look (l.drop i) most).1, i + (look (l.drop i) most).2.1, (look (l.drop i) most).2.2)
set_option maxHeartbeats 1600000 in
set_option maxRecDepth 100000 in
theorem num_any (g : Nat) (l : List UInt8) (i : Nat) (er most : Int) (w : World) (h : RdV w g l i er) :
   Calls Tryz.prog 130 #[.pointer (some ⟨g, 0, none⟩), .int .i64 most] w fun e w' => e = .returned (.int .i64 (numR l i er most).1) ∧ RdV w' g l (numR l i er most).2.1 (numR l i er most).2.2 ∧ w.grownBy w' (some g) := by
  obtain ⟨A, c, hc0, hc1, hc2, hf1, hf2, hr, hi, hlc, hl⟩ := h.cells
  by_cases he : er = 0
  · subst he
    have hrc := hr.cut (cap := c) hi hlc
    rw [Nat.mul_one, bcs_drop] at hrc
    obtain ⟨q1, q2, q3, Hq⟩ : ∃ q1 q2 q3, Hid ((q1, q2, q3) = look (l.drop i) most) := ⟨_, _, _, hide rfl⟩
    have Hc := hide (show numR l i 0 most = ((q1 : Int), i + q2, q3) from by simp [numR, ← Hq.out])
    have hql := look_le (l.drop i) most
    rw [← Hq.out, List.length_drop] at hql
    obtain ⟨hq1, hq2, hq3, hq4⟩ := hql
    simp only at hq1 hq2 hq4
    have hcap : (if c = i then A else Option.map (fun x => x.add i) A) = if c = i then A else Option.map (fun x => x.add i) A := rfl
    clear hq3 hcap
    by_cases hq0 : q3 = 0
    · subst hq0
      clear hq4
      by_cases hci : c = i
      · subst hci
        rw [if_pos rfl, show l.length - c = 0 from by omega] at hrc
        go_enter Tryz.func130, Tryz.ntmps130
        go_wp2_with (first
          | (go_at_call 137
             refine (err_any g l _ 0 _ h).mono ?_
             rintro e w1 ⟨rfl, rfl⟩))
        go_quiet ((go_at_call 156; exact quiet_left (number_q _ _ _ _ most _ g (by omega) (by omega) (hrc.drewN _) q1 q2 _ Hq.out)))
        go_wp2
        go_ret
        refine ⟨by rw [Hc.out]; rfl, ?_, only_setCell (only_drewN (only_self _ _) _) (.inl rfl) _⟩
        rw [Hc.out]
        exact (h.drewN _).setAt (c + q2) (by omega)
      · rw [if_neg hci] at hrc
        go_enter Tryz.func130, Tryz.ntmps130
        go_wp2_with (first
          | (go_at_call 137
             refine (err_any g l i 0 _ h).mono ?_
             rintro e w1 ⟨rfl, rfl⟩))
        go_quiet ((go_at_call 156; exact quiet_left (number_q _ _ _ (l.drop i) most _ g (by omega) (by omega) (hrc.drewN _) q1 q2 _ Hq.out)))
        go_wp2
        go_ret
        refine ⟨by rw [Hc.out]; rfl, ?_, only_setCell (only_drewN (only_self _ _) _) (.inl rfl) _⟩
        rw [Hc.out]
        exact (h.drewN _).setAt (i + q2) (by omega)
    · obtain ⟨rfl, rfl⟩ := hq4 hq0
      have hnb : (q3 != 0) = true := by rw [bne_iff_ne]; exact hq0
      clear hq0 hq4
      by_cases hci : c = i
      · subst hci
        rw [if_pos rfl, show l.length - c = 0 from by omega] at hrc
        go_enter Tryz.func130, Tryz.ntmps130
        go_wp2_with (first
          | (go_at_call 137
             refine (err_any g l _ 0 _ h).mono ?_
             rintro e w1 ⟨rfl, rfl⟩))
        go_quiet ((go_at_call 156; exact quiet_left (number_q _ _ _ _ most _ g (by omega) (by omega) (hrc.drewN _) 0 0 _ Hq.out)))
        go_wp2
        go_ret
        refine ⟨by rw [Hc.out]; rfl, ?_, only_setCell (only_drewN (only_self _ _) _) (.inl rfl) _⟩
        rw [Hc.out]
        exact (h.drewN _).setErr q3
      · rw [if_neg hci] at hrc
        go_enter Tryz.func130, Tryz.ntmps130
        go_wp2_with (first
          | (go_at_call 137
             refine (err_any g l i 0 _ h).mono ?_
             rintro e w1 ⟨rfl, rfl⟩))
        go_quiet ((go_at_call 156; exact quiet_left (number_q _ _ _ (l.drop i) most _ g (by omega) (by omega) (hrc.drewN _) 0 0 _ Hq.out)))
        go_wp2
        go_ret
        refine ⟨by rw [Hc.out]; rfl, ?_, only_setCell (only_drewN (only_self _ _) _) (.inl rfl) _⟩
        rw [Hc.out]
        exact (h.drewN _).setErr q3
  · have hnb : (er != 0) = true := by rw [bne_iff_ne]; exact he
    have Hc : Hid (numR l i er most = (0, i, er)) := hide (by simp [numR, he])
    clear he
    go_enter Tryz.func130, Tryz.ntmps130
    go_wp2_with (first
      | (go_at_call 137
         refine (err_any g l i er _ h).mono ?_
         rintro e w1 ⟨rfl, rfl⟩))
    go_ret
    exact ⟨by rw [Hc.out]; rfl, by rw [Hc.out]; exact h, only_self _ _⟩
end Go.Proofs.YtdmejcfnolhplaaGreat.Vlq
/-
  The contract of the program's Str, over a reader. No condition beyond the reader's own.
-/
namespace Go.Proofs.YtdmejcfnolhplaaGreat.Vlq
open Go.RowKit
set_option linter.unusedVariables false
theorem wd_pos (l : List UInt8) (i : Nat) (h : (wd l i).2 = 0) : 0 < (wd l i).1 := by
  induction l generalizing i with
  | nil => simp [wd] at h
  | cons c r ih =>
    unfold wd at h ⊢
    split
    · simp
    · rename_i h1
      rw [if_neg h1] at h
      split
      · rename_i h2; rw [if_pos h2] at h; simp at h
      · rename_i h2; rw [if_neg h2] at h; exact ih _ h
theorem width_pos (l : List UInt8) (h : (width l).2 = 0) : 0 < (width l).1 := by
  cases l with
  | nil => simp [width] at h
  | cons c r =>
    simp only [width] at h ⊢
    split
    · rename_i h1; rw [if_pos h1] at h; simp at h
    · rename_i h1; rw [if_neg h1] at h; exact wd_pos _ _ h
theorem look_pos (l : List UInt8) (most : Int) (h : (look l most).2.2 = 0) : 0 < (look l most).2.1 := by
  unfold look at h ⊢
  split
  · rename_i h1; rw [if_pos h1] at h; exact absurd h h1
  · rename_i h1
    rw [if_neg h1] at h
    split
    · rename_i h2; rw [if_pos h2] at h; simp at h
    · simp only; exact width_pos l (by omega)
def strR (l : List UInt8) (i : Nat) (er most : Int) : List UInt8 × Nat × Int :=
  if er ≠ 0 then ([], i, er)
  else if (look (l.drop i) most).2.2 ≠ 0 then ([], i, (look (l.drop i) most).2.2)
  else if l.length - i - (look (l.drop i) most).2.1 < (look (l.drop i) most).1 then ([], i, 2)
  else ((l.drop (i + (look (l.drop i) most).2.1)).take (look (l.drop i) most).1, i + ((look (l.drop i) most).2.1 + (look (l.drop i) most).1), 0)
set_option maxHeartbeats 1600000 in
set_option maxRecDepth 100000 in
theorem str_ok (g : Nat) (l : List UInt8) (i : Nat) (most : Int) (w : World) (A : Option Addr) (q1 q2 x y : Nat) (hc0 : w.cell? ⟨g, 0, none⟩ = some (.slice A (i + (q2 + (q1 + x))) (i + (q2 + (q1 + (x + y)))))) (hc1 : w.cell? ⟨g, 1, none⟩ = some (.int .i64 (i : Int)))
   (hc2 : w.cell? ⟨g, 2, none⟩ = some (.int .i64 0)) (hf1 : w.frozen? ⟨g, 1, none⟩ = false) (hlen : l.length = i + (q2 + (q1 + x))) (hl : i + (q2 + (q1 + x)) ≤ 1099511627776) (h : RdV w g l i 0)
   (hrc : Reads w g 1 (Option.map (fun x => x.add i) A) (q2 + (q1 + x)) (bcs (l.drop i))) (hq : (q1, q2, (0 : Int)) = look (l.drop i) most) (hpos : 0 < q2)
   (Hc : Hid (strR l i 0 most = ((l.drop (i + q2)).take q1, i + (q2 + q1), 0)))
   (hr3 : Reads w g 1 (if q1 + (x + y) = 0 then Option.map (fun x => x.add i) A else Option.map ((fun x => x.add q2) ∘ fun x => x.add i) A) q1 (bcs ((l.drop (i + q2)).take q1))) :
   Calls Tryz.prog 132 #[.pointer (some ⟨g, 0, none⟩), .int .i64 most] w fun e w' => e = .returned (.string (str (strR l i 0 most).1)) ∧ RdV w' g l (strR l i 0 most).2.1 (strR l i 0 most).2.2 ∧ w.grownBy w' (some g) := by
  have Hq := hide hq
  have Hlen := hide hlen
  clear hq hlen
  by_cases h0 : q1 + (x + y) = 0
  · rw [if_pos h0] at hr3
    obtain ⟨rfl, rfl, rfl⟩ : q1 = 0 ∧ x = 0 ∧ y = 0 := by omega
    clear h0
    have hcv : ∀ (n : Nat) (z : Value), (convert 55 9 (.slice (Option.map (fun x => x.add i) A) 0 0)).run Tryz.prog ((w.drewN n).setCell ⟨g, 1, none⟩ z) = .ok (.string (str ((l.drop (i + q2)).take 0))) ((w.drewN n).setCell ⟨g, 1, none⟩ z) :=
      fun n z => run_str _ _ _ _ _ Tryz.underlying55 Tryz.underlying5 Tryz.underlying9 ((hr3.drewN n).setCell (p := ⟨g, 1, none⟩) (Nat.le_refl _) z)
    go_enter Tryz.func132, Tryz.ntmps132
    go_wp2_with (first
      | (go_at_call 137
         refine (err_any g l i 0 _ h).mono ?_
         rintro e w1 ⟨rfl, rfl⟩))
    go_quiet (fail)
    go_wp2_with (first
      | (go_at_call 156
         refine (number_q _ _ _ (l.drop i) most _ g (by omega) (by omega) (hrc.drewN _) 0 q2 _ Hq.out).mono ?_
         rintro e w1 ⟨rfl, rfl⟩))
    go_ret
    refine ⟨by rw [Hc.out]; rfl, ?_, only_setCell (only_drewN (only_self _ _) _) (.inl rfl) _⟩
    rw [Hc.out]
    exact (h.drewN _).setAt (i + (q2 + 0)) (by have := Hlen.out; omega)
  · rw [if_neg h0] at hr3
    have hp : 0 < q1 + (x + y) := by omega
    clear h0
    have hcv : ∀ (n : Nat) (z : Value), (convert 55 9 (.slice (Option.map ((fun x => x.add q2) ∘ fun x => x.add i) A) q1 (q1 + (x + y)))).run Tryz.prog ((w.drewN n).setCell ⟨g, 1, none⟩ z) = .ok (.string (str ((l.drop (i + q2)).take q1))) ((w.drewN n).setCell ⟨g, 1, none⟩ z) :=
      fun n z => run_str _ _ _ _ _ Tryz.underlying55 Tryz.underlying5 Tryz.underlying9 ((hr3.drewN n).setCell (p := ⟨g, 1, none⟩) (Nat.le_refl _) z)
    go_enter Tryz.func132, Tryz.ntmps132
    go_wp2_with (first
      | (go_at_call 137
         refine (err_any g l i 0 _ h).mono ?_
         rintro e w1 ⟨rfl, rfl⟩))
    go_quiet (fail)
    go_wp2_with (first
      | (go_at_call 156
         refine (number_q _ _ _ (l.drop i) most _ g (by omega) (by omega) (hrc.drewN _) q1 q2 _ Hq.out).mono ?_
         rintro e w1 ⟨rfl, rfl⟩))
    go_ret
    refine ⟨by rw [Hc.out]; rfl, ?_, only_setCell (only_drewN (only_self _ _) _) (.inl rfl) _⟩
    rw [Hc.out]
    exact (h.drewN _).setAt (i + (q2 + q1)) (by have := Hlen.out; omega)
set_option maxHeartbeats 1600000 in
set_option maxRecDepth 100000 in
theorem str_any (g : Nat) (l : List UInt8) (i : Nat) (er most : Int) (w : World) (h : RdV w g l i er) :
   Calls Tryz.prog 132 #[.pointer (some ⟨g, 0, none⟩), .int .i64 most] w fun e w' => e = .returned (.string (str (strR l i er most).1)) ∧ RdV w' g l (strR l i er most).2.1 (strR l i er most).2.2 ∧ w.grownBy w' (some g) := by
  obtain ⟨A, c, hc0, hc1, hc2, hf1, hf2, hr, hi, hlc, hl⟩ := h.cells
  by_cases he : er = 0
  · subst he
    have hrc := hr.cut (cap := c) hi hlc
    rw [Nat.mul_one, bcs_drop] at hrc
    obtain ⟨q1, q2, q3, Hq⟩ : ∃ q1 q2 q3, Hid ((q1, q2, q3) = look (l.drop i) most) := ⟨_, _, _, hide rfl⟩
    have hql := look_le (l.drop i) most
    have Hc := hide (show strR l i 0 most = if q3 ≠ 0 then ([], i, q3) else if l.length - i - q2 < q1 then ([], i, 2) else ((l.drop (i + q2)).take q1, i + (q2 + q1), 0) from by simp [strR, ← Hq.out])
    rw [← Hq.out, List.length_drop] at hql
    obtain ⟨hq1, hq2, hq3, hq4⟩ := hql
    simp only at hq1 hq2 hq4
    clear hq3
    by_cases hq0 : q3 = 0
    · subst hq0
      clear hq4
      rw [if_neg (by simp)] at Hc
      by_cases hci : c = i
      · exfalso
        have h1 := Hq.out
        rw [show l.drop i = [] from List.drop_of_length_le (by omega)] at h1
        simp [look, width] at h1
      · rw [if_neg hci] at hrc
        by_cases hlong : l.length - i - q2 < q1
        · rw [if_pos hlong] at Hc
          have hlb : (l.length : Int) - i - q2 < (q1 : Int) := by omega
          go_enter Tryz.func132, Tryz.ntmps132
          go_wp2_with (first
            | (go_at_call 137
               refine (err_any g l i 0 _ h).mono ?_
               rintro e w1 ⟨rfl, rfl⟩))
          go_quiet (fail)
          go_wp2_with (first
            | (go_at_call 156
               refine (number_q _ _ _ (l.drop i) most _ g (by omega) (by omega) (hrc.drewN _) q1 q2 _ Hq.out).mono ?_
               rintro e w1 ⟨rfl, rfl⟩))
          go_ret
          refine ⟨by rw [Hc.out]; rfl, ?_, only_setCell (only_drewN (only_self _ _) _) (.inl rfl) _⟩
          rw [Hc.out]
          exact (h.drewN _).setErr 2
        · rw [if_neg hlong] at Hc
          have hlb : ¬ ((l.length : Int) - i - q2 < (q1 : Int)) := by omega
          have hr3 := (hrc.cut (k := q2) (cap := c - i) hq1 (by omega)).take (k := q1) (by omega)
          rw [Nat.mul_one, bcs_drop, bcs_take, List.drop_drop, Option.map_map] at hr3
          have hpos : 0 < q2 := by
            have := look_pos (l.drop i) most (by rw [← Hq.out])
            rw [← Hq.out] at this
            exact this
          obtain ⟨x, hx⟩ : ∃ x, l.length = i + (q2 + (q1 + x)) := ⟨l.length - i - q2 - q1, by omega⟩
          obtain ⟨y, rfl⟩ : ∃ y, c = i + (q2 + (q1 + (x + y))) := ⟨c - l.length, by omega⟩
          refine str_ok g l i most w A q1 q2 x y (by rw [hc0, hx]) hc1 hc2 hf1 hx (by omega) h (by rw [show q2 + (q1 + x) = l.length - i from by omega]; exact hrc) Hq.out hpos Hc ?_
          by_cases h0 : q1 + (x + y) = 0
          · rw [if_pos h0]
            rw [if_pos (by omega)] at hr3
            exact hr3
          · rw [if_neg h0]
            rw [if_neg (by omega)] at hr3
            exact hr3
    · obtain ⟨rfl, rfl⟩ := hq4 hq0
      rw [if_pos hq0] at Hc
      have hnb : (q3 != 0) = true := by rw [bne_iff_ne]; exact hq0
      have hnb2 : (q3 == 0) = false := by simpa using hq0
      clear hq0 hq4
      by_cases hci : c = i
      · subst hci
        rw [if_pos rfl, show l.length - c = 0 from by omega] at hrc
        go_enter Tryz.func132, Tryz.ntmps132
        go_wp2_with (first
          | (go_at_call 137
             refine (err_any g l _ 0 _ h).mono ?_
             rintro e w1 ⟨rfl, rfl⟩))
        go_quiet (fail)
        go_wp2_with (first
          | (go_at_call 156
             refine (number_q _ _ _ _ most _ g (by omega) (by omega) (hrc.drewN _) 0 0 _ Hq.out).mono ?_
             rintro e w1 ⟨rfl, rfl⟩))
        go_ret
        refine ⟨by rw [Hc.out]; rfl, ?_, only_setCell (only_drewN (only_self _ _) _) (.inl rfl) _⟩
        rw [Hc.out]
        exact (h.drewN _).setErr q3
      · rw [if_neg hci] at hrc
        go_enter Tryz.func132, Tryz.ntmps132
        go_wp2_with (first
          | (go_at_call 137
             refine (err_any g l i 0 _ h).mono ?_
             rintro e w1 ⟨rfl, rfl⟩))
        go_quiet (fail)
        go_wp2_with (first
          | (go_at_call 156
             refine (number_q _ _ _ (l.drop i) most _ g (by omega) (by omega) (hrc.drewN _) 0 0 _ Hq.out).mono ?_
             rintro e w1 ⟨rfl, rfl⟩))
        go_ret
        refine ⟨by rw [Hc.out]; rfl, ?_, only_setCell (only_drewN (only_self _ _) _) (.inl rfl) _⟩
        rw [Hc.out]
        exact (h.drewN _).setErr q3
  · have hnb : (er != 0) = true := by rw [bne_iff_ne]; exact he
    have Hc : Hid (strR l i er most = ([], i, er)) := hide (by simp [strR, he])
    clear he
    go_enter Tryz.func132, Tryz.ntmps132
    go_wp2_with (first
      | (go_at_call 137
         refine (err_any g l i er _ h).mono ?_
         rintro e w1 ⟨rfl, rfl⟩))
    go_ret
    exact ⟨by rw [Hc.out]; rfl, by rw [Hc.out]; exact h, only_self _ _⟩
end Go.Proofs.YtdmejcfnolhplaaGreat.Vlq
/-
  The contracts of the document's own reader. Condition: no more than 2^40 bytes.
-/
namespace Go.Proofs.YtdmejcfnolhplaaGreat.Vlq
open Go.RowKit
set_option linter.unusedVariables false
def RdM (w : World) (g : Nat) (l : List UInt8) (e : Int) : Prop :=
  Blk w g 158 #[.string (str l), .int .i64 e] ∧ l.length ≤ 1099511627776
theorem RdM.cells {w : World} {g : Nat} {l : List UInt8} {e : Int} (h : RdM w g l e) :
   w.cell? ⟨g, 0, none⟩ = some (.string (str l)) ∧ w.cell? ⟨g, 1, none⟩ = some (.int .i64 e) ∧ w.frozen? ⟨g, 0, none⟩ = false ∧ w.frozen? ⟨g, 1, none⟩ = false ∧ l.length ≤ 1099511627776 :=
  ⟨(h.1.cell 0).trans rfl, (h.1.cell 1).trans rfl, h.1.frozen 0, h.1.frozen 1, h.2⟩
theorem RdM.setStr {w : World} {g : Nat} {l : List UInt8} {e : Int} (h : RdM w g l e) (l' : List UInt8) (hl : l'.length ≤ l.length) : RdM (w.setCell ⟨g, 0, none⟩ (.string (str l'))) g l' e :=
  ⟨h.1.set_ 0 _, Nat.le_trans hl h.2⟩
theorem RdM.setErr {w : World} {g : Nat} {l : List UInt8} {e : Int} (h : RdM w g l e) (e' : Int) : RdM (w.setCell ⟨g, 1, none⟩ (.int .i64 e')) g l e' := ⟨h.1.set_ 1 _, h.2⟩
theorem RdM.grown {w w' : World} {g : Nat} {row : Option Nat} {l : List UInt8} {e : Int} (h : RdM w g l e) (hb : w.grownBy w' row) (hg : some g ≠ row) : RdM w' g l e := ⟨h.1.grown hb hg, h.2⟩
theorem RdM.below {w w' : World} {g B : Nat} {l : List UInt8} {e : Int} (h : RdM w g l e) (hb : Below B w w') (hg : g < B) : RdM w' g l e := ⟨h.1.below hb hg, h.2⟩
theorem look_q (l : List UInt8) (most : Int) (w : World) (hn : l.length ≤ 1099511627776) (q1 q2 : Nat) (q3 : Int) (hq : (q1, q2, q3) = look l most) :
   Calls Tryz.prog 140 #[.string (str l), .int .i64 most] w fun e w' => e = .returned (.tuple #[.int .i64 q1, .int .i64 q2, .int .i64 q3]) ∧ w = w' := by
  have := look_any l most w hn
  rw [← hq] at this
  exact this
def numM (l : List UInt8) (er most : Int) : Int × List UInt8 × Int :=
  if er ≠ 0 then (0, l, er) else ((look l most).1, l.drop (look l most).2.1, (look l most).2.2)
set_option maxHeartbeats 1600000 in
set_option maxRecDepth 100000 in
theorem refRdNum_any (g : Nat) (l : List UInt8) (er most : Int) (w : World) (h : RdM w g l er) :
   Calls Tryz.prog 100 #[.pointer (some ⟨g, 0, none⟩), .int .i64 most] w fun e w' => e = .returned (.int .i64 (numM l er most).1) ∧ RdM w' g (numM l er most).2.1 (numM l er most).2.2 ∧ w.grownBy w' (some g) := by
  obtain ⟨hc0, hc1, hf0, hf1, hl⟩ := h.cells
  by_cases he : er = 0
  · subst he
    obtain ⟨q1, q2, q3, Hq⟩ : ∃ q1 q2 q3, Hid ((q1, q2, q3) = look l most) := ⟨_, _, _, hide rfl⟩
    have Hc := hide (show numM l 0 most = ((q1 : Int), l.drop q2, q3) from by simp [numM, ← Hq.out])
    have hql := look_le l most
    rw [← Hq.out] at hql
    obtain ⟨hq1, hq2, hq3, hq4⟩ := hql
    simp only at hq1 hq2 hq4
    clear hq3 hq4
    have hsz : q2 ≤ (str l).size := by rw [str_size]; exact hq1
    go_enter Tryz.func100, Tryz.ntmps100
    go_wp2_with (first
      | (go_at_call 140
         refine (look_q l most _ (by omega) q1 q2 q3 Hq.out).mono ?_
         rintro e w1 ⟨rfl, rfl⟩))
    go_ret
    refine ⟨by rw [Hc.out]; rfl, ?_, only_setCell (p := ⟨g, 0, none⟩) (only_setCell (p := ⟨g, 1, none⟩) (only_self w g) (.inl rfl) _) (.inl rfl) _⟩
    rw [Hc.out, str_extract_end]
    exact (h.setErr q3).setStr (l.drop q2) (by simp)
  · have hnb : (er != 0) = true := by rw [bne_iff_ne]; exact he
    have Hc : Hid (numM l er most = (0, l, er)) := hide (by simp [numM, he])
    clear he
    go_enter Tryz.func100, Tryz.ntmps100
    go_wp2
    go_ret
    exact ⟨by rw [Hc.out]; rfl, by rw [Hc.out]; exact h, only_self _ _⟩
def strM (l : List UInt8) (er most : Int) : List UInt8 × List UInt8 × Int :=
  if er ≠ 0 then ([], l, er)
  else if (look l most).2.2 ≠ 0 then ([], l, (look l most).2.2)
  else if l.length - (look l most).2.1 < (look l most).1 then ([], l, 2)
  else ((l.drop (look l most).2.1).take (look l most).1, l.drop ((look l most).2.1 + (look l most).1), 0)
set_option maxHeartbeats 1600000 in
set_option maxRecDepth 100000 in
theorem refRdStr_any (g : Nat) (l : List UInt8) (er most : Int) (w : World) (h : RdM w g l er) :
   Calls Tryz.prog 99 #[.pointer (some ⟨g, 0, none⟩), .int .i64 most] w fun e w' => e = .returned (.string (str (strM l er most).1)) ∧ RdM w' g (strM l er most).2.1 (strM l er most).2.2 ∧ w.grownBy w' (some g) := by
  obtain ⟨hc0, hc1, hf0, hf1, hl⟩ := h.cells
  by_cases he : er = 0
  · subst he
    obtain ⟨q1, q2, q3, Hq⟩ : ∃ q1 q2 q3, Hid ((q1, q2, q3) = look l most) := ⟨_, _, _, hide rfl⟩
    have Hc := hide (show strM l 0 most = if q3 ≠ 0 then ([], l, q3) else if l.length - q2 < q1 then ([], l, 2) else ((l.drop q2).take q1, l.drop (q2 + q1), 0) from by simp [strM, ← Hq.out])
    have hql := look_le l most
    rw [← Hq.out] at hql
    obtain ⟨hq1, hq2, hq3, hq4⟩ := hql
    simp only at hq1 hq2 hq4
    clear hq3 hq4
    have hsz : q2 ≤ (str l).size := by rw [str_size]; exact hq1
    have hszl : (str l).size ≤ 1099511627776 := by rw [str_size]; exact hl
    by_cases hq0 : q3 = 0
    · subst hq0
      rw [if_neg (by simp)] at Hc
      by_cases hlong : l.length - q2 < q1
      · rw [if_pos hlong] at Hc
        have hlb : (((str l).size : Int) - q2 < (q1 : Int)) := by rw [str_size]; omega
        clear hlong
        go_enter Tryz.func99, Tryz.ntmps99
        go_wp2_with (first
          | (go_at_call 140
             refine (look_q l most _ (by omega) q1 q2 0 Hq.out).mono ?_
             rintro e w1 ⟨rfl, rfl⟩))
        go_ret
        refine ⟨by rw [Hc.out]; rfl, ?_, only_setCell (only_self _ _) (.inl rfl) _⟩
        rw [Hc.out]
        exact h.setErr 2
      · rw [if_neg hlong] at Hc
        have hlb : ¬ (((str l).size : Int) - q2 < (q1 : Int)) := by rw [str_size]; omega
        have hlc : q2 + q1 ≤ (str l).size := by rw [str_size]; omega
        have hsl : ∀ W : World, (Instr.slice 9 (.string (str l)) (some (.int .i64 (q2 : Int))) (some (.int .i64 ((q2 : Int) + (q1 : Int)))) none).run Tryz.prog W = .ok (.string (str ((l.drop q2).take q1))) W := fun W => by
          rw [run_slice_string W 9 (str l) .i64 .i64 (q2 : Int) ((q2 : Int) + (q1 : Int)) Tryz.underlying9 (by omega) (by omega) (by omega), show ((q2 : Int) + (q1 : Int)).toNat = q2 + q1 from by omega, Int.toNat_natCast, str_extract, Nat.add_sub_cancel_left]
        clear hlong
        go_enter Tryz.func99, Tryz.ntmps99
        go_wp2_with (first
          | (go_at_call 140
             refine (look_q l most _ (by omega) q1 q2 0 Hq.out).mono ?_
             rintro e w1 ⟨rfl, rfl⟩))
        go_ret
        refine ⟨by rw [Hc.out]; rfl, ?_, only_setCell (p := ⟨g, 0, none⟩) (only_setCell (p := ⟨g, 1, none⟩) (only_self w g) (.inl rfl) _) (.inl rfl) _⟩
        rw [Hc.out, str_extract_end]
        exact (h.setErr 0).setStr (l.drop (q2 + q1)) (by simp)
    · rw [if_pos hq0] at Hc
      have hnb : (q3 != 0) = true := by rw [bne_iff_ne]; exact hq0
      have hnb2 : (q3 == 0) = false := by simpa using hq0
      clear hq0
      go_enter Tryz.func99, Tryz.ntmps99
      go_wp2_with (first
        | (go_at_call 140
           refine (look_q l most _ (by omega) q1 q2 q3 Hq.out).mono ?_
           rintro e w1 ⟨rfl, rfl⟩))
      go_ret
      refine ⟨by rw [Hc.out]; rfl, ?_, only_setCell (only_self _ _) (.inl rfl) _⟩
      rw [Hc.out]
      exact h.setErr q3
  · have hnb : (er != 0) = true := by rw [bne_iff_ne]; exact he
    have Hc : Hid (strM l er most = ([], l, er)) := hide (by simp [strM, he])
    clear he
    go_enter Tryz.func99, Tryz.ntmps99
    go_wp2
    go_ret
    exact ⟨by rw [Hc.out]; rfl, by rw [Hc.out]; exact h, only_self _ _⟩
def closedM (l : List UInt8) (e : Int) : Int := if e ≠ 0 then e else if l = [] then 0 else 3
set_option maxHeartbeats 800000 in
theorem refClose_any (g : Nat) (l : List UInt8) (er : Int) (w : World) (h : RdM w g l er) :
   Calls Tryz.prog 102 #[.pointer (some ⟨g, 0, none⟩)] w fun e w' => e = .returned (.int .i64 (closedM l er)) ∧ w = w' := by
  obtain ⟨hc0, hc1, hf0, hf1, hl⟩ := h.cells
  by_cases he : er = 0
  · subst he
    by_cases h0 : l = []
    · have hb : (!(str l).toList.isEmpty) = false := by rw [h0, str, ByteArray.toList_mk]; rfl
      have hb2 : (str l).toList.isEmpty = true := by rw [h0, str, ByteArray.toList_mk]; rfl
      have Hc : Hid (closedM l 0 = 0) := hide (by simp [closedM, h0])
      clear h0
      go_enter Tryz.func102, Tryz.ntmps102
      go_wp2
      go_ret
      exact ⟨by rw [Hc.out]; rfl, rfl⟩
    · have hb : (!(str l).toList.isEmpty) = true := by rw [str, ByteArray.toList_mk]; simpa using h0
      have hb2 : (str l).toList.isEmpty = false := by rw [str, ByteArray.toList_mk]; simpa using h0
      have Hc : Hid (closedM l 0 = 3) := hide (by simp [closedM, h0])
      clear h0
      go_enter Tryz.func102, Tryz.ntmps102
      go_wp2
      go_ret
      exact ⟨by rw [Hc.out]; rfl, rfl⟩
  · have hnb : (er == 0) = false := by simp [he]
    have Hc : Hid (closedM l er = er) := hide (by simp [closedM, he])
    clear he
    go_enter Tryz.func102, Tryz.ntmps102
    go_wp2
    go_ret
    exact ⟨by rw [Hc.out]; rfl, rfl⟩
end Go.Proofs.YtdmejcfnolhplaaGreat.Vlq
/-
  What was put is read, as plain mathematics. No condition beyond the numbers' own bounds.
-/
namespace Go.Proofs.YtdmejcfnolhplaaGreat.Vlq
set_option linter.unusedVariables false
theorem hi_big (n : Nat) : ∀ c ∈ hi n, 128 ≤ c.toNat := by
  induction n using Nat.strongRecOn with
  | _ n ih =>
    intro c hc
    rcases Nat.eq_zero_or_pos n with h0 | h0
    · subst h0; simp [hi_zero] at hc
    · rw [hi_pos n h0, List.mem_append] at hc
      rcases hc with hc | hc
      · exact ih _ (by omega) c hc
      · simp at hc
        subst hc
        simp; omega
theorem hi_first (n : Nat) (c : UInt8) (h : (hi n)[0]? = some c) : c.toNat ≠ 128 := by
  induction n using Nat.strongRecOn generalizing c with
  | _ n ih =>
    rcases Nat.eq_zero_or_pos n with h0 | h0
    · subst h0; simp [hi_zero] at h
    · rw [hi_pos n h0] at h
      by_cases hq : n / 128 = 0
      · rw [hq, hi_zero] at h
        simp at h
        subst h
        simp; omega
      · rw [List.getElem?_append_left (by rw [hi_pos _ (Nat.pos_of_ne_zero hq)]; simp)] at h
        exact ih _ (by omega) c h
theorem val_hi (n : Nat) : val (hi n) = n := by
  induction n using Nat.strongRecOn with
  | _ n ih =>
    rcases Nat.eq_zero_or_pos n with h0 | h0
    · subst h0; rw [hi_zero]; rfl
    · rw [hi_pos n h0, val_snoc, ih _ (by omega)]
      simp; omega
theorem val_enc (n : Nat) : val (enc n) = n := by
  unfold enc
  rw [val_snoc, val_hi]
  simp; omega
theorem wd_run (l : List UInt8) (c : UInt8) (m : List UInt8) (i : Nat) (h : ∀ x ∈ l, 128 ≤ x.toNat) (hc : c.toNat < 128) (h6 : i + l.length ≤ 5) : wd (l ++ c :: m) i = (i + l.length + 1, 0) := by
  induction l generalizing i with
  | nil => simp [wd, hc]
  | cons a l ih =>
    have ha := h a (by simp)
    rw [List.cons_append, wd, if_neg (by omega), if_neg (by simp at h6; omega), ih (i + 1) (fun x hx => h x (by simp [hx])) (by simp at h6; omega)]
    simp; omega
theorem width_enc (n : Nat) (hn : n ≤ 1099511627776) (m : List UInt8) : width (enc n ++ m) = ((enc n).length, 0) := by
  have hlen := hi_length (n / 128) 5 (by omega)
  have hlast : (UInt8.ofNat (n % 128)).toNat < 128 := by simp; omega
  have hrun := wd_run (hi (n / 128)) (UInt8.ofNat (n % 128)) m 0 (hi_big _) hlast (by omega)
  have e : enc n ++ m = hi (n / 128) ++ UInt8.ofNat (n % 128) :: m := by simp [enc]
  rw [e]
  have hw : width (hi (n / 128) ++ UInt8.ofNat (n % 128) :: m) = wd (hi (n / 128) ++ UInt8.ofNat (n % 128) :: m) 0 := by
    by_cases hq : n / 128 = 0
    · rw [hq, hi_zero]
      simp only [List.nil_append, width]
      rw [if_neg (by omega)]
    · have hp : 0 < (hi (n / 128)).length := by rw [hi_pos _ (Nat.pos_of_ne_zero hq)]; simp
      refine width_cons _ ((hi (n / 128))[0]'hp) ?_ ?_
      · rw [List.getElem?_append_left hp]; simp [hp]
      · exact hi_first (n / 128) _ (by simp [hp])
  rw [hw, hrun]
  simp [enc]
theorem look_enc (n : Nat) (hn : n ≤ 1099511627776) (m : List UInt8) (most : Int) (hm : (n : Int) ≤ most) : look (enc n ++ m) most = (n, (enc n).length, 0) := by
  unfold look
  rw [width_enc n hn]
  simp only [List.take_left, val_enc]
  rw [if_neg (by simp), if_neg (by omega)]
end Go.Proofs.YtdmejcfnolhplaaGreat.Vlq
