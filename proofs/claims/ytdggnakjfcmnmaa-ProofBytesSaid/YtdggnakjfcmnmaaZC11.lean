/-
  Some texts of this claim, one behind the other: Words, VlqRef, VlqPutNum, VlqPut. What each proves, and its condition, stands at its head.
-/
import Derived.Test.YtdggnakjfcmnmaaZC1
import Derived.Test.YtdggnakjfcmnmaaChecked
import Derived.Lib.SlBytesConst
import Derived.Test.YtdggnakjfcmnmaaZC10
/-
  Words for slices of bytes: a new slice of bytes, string() of it, what stays as memory grows. No condition.
-/
namespace Go.Proofs.Ytdggnakjfcmnmaa
open Go.RowKit
set_option linter.unusedVariables false
theorem info_u8 : (Try.prog.info? 5).map (fun i => (i.zero, i.size, i.bytes)) = some (some (.int .u8 0), 1, 1) := by kernel_rfl
theorem info_u8' : (Try.prog.info? 5).map (·.size) = some 1 := by kernel_rfl
theorem conv_new (W : World) (zs : List Int) (c : Nat) : (convert 30 9 (.slice (some ⟨W.heap.size, 0, none⟩) zs.length c)).run Try.prog (W.alloc (.cells (zs.map (Value.int .u8)).toArray 5)) = .ok (.string (strOfNums zs)) (W.alloc (.cells (zs.map (Value.int .u8)).toArray 5)) := by
  refine run_convert_bytes_arg (P := Try.prog) _ 30 5 Try.underlying30 Try.underlying5 W.heap.size 0 zs.length c zs rfl ?_ 9 Try.underlying9
  intro i hi
  refine (World.cell?_alloc_at _ _ _ _ rfl).trans ?_
  simp [hi]
def NewB (w : World) (B : Nat) (A : Option Addr) (n c : Nat) (l : List UInt8) : Prop :=
  n = l.length ∧ n ≤ c ∧ w.ownsRow B 5 1 (.slice A n c) n (bcs l) ∧ Reads w w.heap.size 1 A n (bcs l)
theorem conv_of {w : World} {B n c : Nat} {A : Option Addr} {l : List UInt8} (h : Reads w B 1 A n (bcs l)) : (convert 30 9 (.slice A n c)).run Try.prog w = .ok (.string (str l)) w :=
  run_str w _ _ _ c Try.underlying30 Try.underlying5 Try.underlying9 h
theorem NewB.conv {w : World} {B : Nat} {A : Option Addr} {n c : Nat} {l : List UInt8} (h : NewB w B A n c l) : (convert 30 9 (.slice A n c)).run Try.prog w = .ok (.string (str l)) w := conv_of h.2.2.2
theorem new_of_own {w : World} {B n : Nat} {v : Value} {l : List UInt8} (h : w.ownsRow B 5 1 v n (bcs l)) : ∃ A c, v = .slice A n c ∧ NewB w B A n c l := by
  obtain ⟨A, c, rfl, hc, hm, hr⟩ := own_form h
  have hn : n = l.length := by have := h.1; rw [bcs_length] at this; omega
  exact ⟨A, c, rfl, hn, hc, h, hr⟩
theorem NewB.below {w w' : World} {B : Nat} {A : Option Addr} {n c : Nat} {l : List UInt8} (h : NewB w B A n c l) (hb : Below w.heap.size w w') : NewB w' B A n c l :=
  ⟨h.1, h.2.1, own_below h.2.2.1 hb, (h.2.2.2.below hb).more hb.size⟩
theorem NewB.less {w : World} {B B' : Nat} {A : Option Addr} {n c : Nat} {l : List UInt8} (h : NewB w B A n c l) (hB : B' ≤ B) : NewB w B' A n c l :=
  ⟨h.1, h.2.1, own_less h.2.2.1 hB, h.2.2.2⟩
end Go.Proofs.Ytdggnakjfcmnmaa
/-
  The contracts of the document's own Num, Nums and Text: they answer the bytes as the plain mathematics has them. Condition: lists and texts as long as a call may have them.
-/
namespace Go.Proofs.Ytdggnakjfcmnmaa.Vlq
open Go.RowKit
set_option linter.unusedVariables false
theorem conv1 (W : World) (z : Int) : (convert 30 9 (.slice (some ⟨W.heap.size, 0, none⟩) 1 1)).run Try.prog (W.alloc (.cells #[.int .u8 z] 5)) = .ok (.string (strOfNums [z])) (W.alloc (.cells #[.int .u8 z] 5)) := by
  refine run_convert_bytes_arg (P := Try.prog) (W.alloc (.cells #[.int .u8 z] 5)) 30 5 Try.underlying30 Try.underlying5 W.heap.size 0 1 1 [z] rfl ?_ 9 Try.underlying9
  intro i hi
  have h0 : i = 0 := by omega
  subst h0
  exact (World.cell?_alloc_at _ _ _ _ rfl).trans rfl
theorem strOfNums_one (z : Int) (y : Nat) (h : z = (y : Int)) : strOfNums [z] = str [UInt8.ofNat y] := by subst h; simp [strOfNums, str]
set_option maxHeartbeats 800000 in
set_option maxRecDepth 100000 in
theorem refNum_any (n : Int) (w : World) :
   Calls Try.prog 40 #[.int .i64 n] w fun e w' => e = .returned (.string (str (enc (held n)))) ∧ Below w.heap.size w w' := by
  obtain ⟨x, Hx⟩ : ∃ x, Hid (x = held n) := ⟨_, hide rfl⟩
  have hh : x ≤ 1099511627776 := by rw [Hx.out]; exact held_le n
  rw [← Hx.out]
  have hcv := conv1
  go_enter Try.func40, Try.ntmps40
  go_upto_region 1 with fail
  go_cut [0] (fun s1 wx => s1 = .int .i64 x ∧ w = wx)
  case first =>
    go_wp2_with fail
    all_goals (go_meet; exact ⟨ret_i (by rw [Hx.out]; unfold held; omega), rfl⟩)
  case rest =>
    obtain ⟨rfl, rfl⟩ := hcut
    go_wp2

    go_loopw [0, 3] (fun t s wx => ∃ (y : Nat) (l : List UInt8), y ≤ 1099511627776 ∧ t = .int .i64 (y : Int) ∧ s = .string (str l) ∧ hi (y / 128) ++ l = enc x ∧ Below w.heap.size w wx) (fun t _ _ => (intOf t).toNat)
    case atStart => exact ⟨x, [UInt8.ofNat (x % 128)], hh, rfl, by rw [strOfNums_one _ (x % 128) (by omega)], rfl, (Below.refl _ _).alloc (Nat.le_refl _) _⟩
    case round =>
      obtain ⟨y, l, hy, rfl, rfl, hl, hb⟩ := hrel
      have hl6 : (str l).size ≤ 6 := by
        have h1 := congrArg List.length hl
        have h2 := enc_length x hh
        rw [List.length_append] at h1
        rw [str_size]; omega
      have hs1 : (strOfNums [128 + (y : Int) / 128 % 128]).size ≤ 1 := by rw [strOfNums_size]; simp
      have Hl := hide hl
      clear hl
      have hsz := hb.size
      by_cases hc : 128 ≤ y
      · go_wp2
        go_roundw
        case rel => 
          refine ⟨y / 128, [UInt8.ofNat (128 + y / 128 % 128)] ++ l, by omega, by go_num, ?_, ?_, hb.alloc hsz _⟩
          · rw [strOfNums_one _ (128 + y / 128 % 128) (by omega), str_append]
          · rw [← Hl.out, hi_pos (y / 128) (by omega), List.append_assoc]
        case measure => simp [intOf]; omega
      · go_wp2
        go_ret
        have : y / 128 = 0 := by omega
        refine ⟨?_, hb⟩
        rw [← Hl.out, this, hi_zero]; rfl

def encs (l : List Int) : List UInt8 := l.flatMap fun n => enc (held n)
theorem encs_length (l : List Int) : (encs l).length ≤ 6 * l.length := by
  induction l with
  | nil => simp [encs]
  | cons n l ih =>
    have := enc_length (held n) (held_le n)
    simp only [encs, List.flatMap_cons, List.length_append, List.length_cons] at ih ⊢
    omega
theorem encs_snoc (l : List Int) (k : Nat) (n : Int) (h : l[k]? = some n) : encs (l.take (k + 1)) = encs (l.take k) ++ enc (held n) := by
  rw [take_snoc' l k n h]; simp [encs]
set_option maxHeartbeats 800000 in
set_option maxRecDepth 100000 in
theorem refText_any (s : ByteArray) (w : World) (hs : s.size ≤ 1000000) :
   Calls Try.prog 41 #[.string s] w fun e w' => e = .returned (.string (str (enc s.size ++ s.data.toList))) ∧ Below w.heap.size w w' := by
  have Hh : Hid (held (s.size : Int) = s.size) := hide (by have := held_of s.size (by omega) (by omega); omega)
  have hs2 : (str (enc (held (s.size : Int)))).size ≤ 6 := by rw [str_size]; exact enc_length _ (held_le _)
  go_enter Try.func41, Try.ntmps41
  go_wp2_with (first
    | (go_at_call 40
       refine (refNum_any _ _).mono ?_
       rintro e w1 ⟨rfl, hb1⟩))
  go_ret
  refine ⟨?_, hb1⟩
  rw [Hh.out, ← str_append, str_of]
  rfl
end Go.Proofs.Ytdggnakjfcmnmaa.Vlq
/-
  The contract of the program's putNum: it puts the document's bytes of the held number behind a slice of the call's own. Condition: the slice has at most 2^46 bytes.
-/
namespace Go.Proofs.Ytdggnakjfcmnmaa.Vlq
open Go.RowKit
set_option linter.unusedVariables false
theorem or128_all : ∀ k : Fin 256, bits .or .u8 (k.val : Int) 128 = ((UInt8.ofNat (128 + k.val % 128)).toNat : Int) := by decide +kernel
theorem andNot128_all : ∀ k : Fin 256, bits .andNot .u8 (k.val : Int) 128 = ((UInt8.ofNat (k.val % 128)).toNat : Int) := by decide +kernel
theorem or128 (y : Nat) : bits .or .u8 ((y : Int) % 256) 128 = ((UInt8.ofNat (128 + y % 128)).toNat : Int) := by
  have := or128_all ⟨y % 256, by omega⟩
  simp only at this
  rw [show ((y : Int) % 256) = ((y % 256 : Nat) : Int) from by omega, this, show y % 256 % 128 = y % 128 from by omega]
theorem andNot128 (y : Nat) : bits .andNot .u8 ((y : Int) % 256) 128 = ((UInt8.ofNat (y % 128)).toNat : Int) := by
  have := andNot128_all ⟨y % 256, by omega⟩
  simp only at this
  rw [show ((y : Int) % 256) = ((y % 256 : Nat) : Int) from by omega, this, show y % 256 % 128 = y % 128 from by omega]
theorem or128_cell (x i : Nat) : [Value.int .u8 (bits .or .u8 ((x : Int) / 2 ^ (7 * i) % 256) 128)] = bcs [UInt8.ofNat (128 + x / 128 ^ i % 128)] := by
  rw [int_div, or128]; rfl
theorem andNot128_cell (x : Nat) : [Value.int .u8 (bits .andNot .u8 ((x : Int) % 256) 128)] = bcs [UInt8.ofNat (x % 128)] := by
  rw [andNot128]; rfl
set_option maxHeartbeats 800000 in
set_option maxRecDepth 100000 in
theorem putNum_any (n : Int) (v : Value) (m : Nat) (l : List UInt8) (w : World) (B : Nat) (hB : B ≤ w.heap.size) (hm2 : m ≤ 70368744177664)
   (hown : w.ownsRow B 5 1 v m (bcs l)) :
   Calls Try.prog 52 #[v, .int .i64 n] w fun e w' => ∃ v', e = .returned v' ∧ w'.ownsRow B 5 1 v' (m + (enc (held n)).length) (bcs (l ++ enc (held n))) ∧ Below B w w' := by
  obtain ⟨i0, hi0, hz0, hz1, hz2⟩ := info_parts info_u8
  obtain ⟨x, Hx⟩ : ∃ x, Hid (x = held n) := ⟨_, hide rfl⟩
  have hh : x ≤ 1099511627776 := by rw [Hx.out]; exact held_le n
  rw [← Hx.out]
  go_enter Try.func52, Try.ntmps52
  go_upto_region 1 with fail
  go_cut [1] (fun s1 wx => s1 = .int .i64 x ∧ w = wx)
  case first =>
    go_wp2_with fail
    all_goals (go_meet; exact ⟨ret_i (by rw [Hx.out]; unfold held; omega), rfl⟩)
  case rest =>
    obtain ⟨rfl, rfl⟩ := hcut
    go_wp2
    go_loop [5] (fun s => ∃ j : Nat, (0 < j → 0 < x / 128 ^ j) ∧ s = .int .i64 (7 * (j : Int))) (fun s => 60 - (intOf s).toNat)
    case atStart => exact ⟨0, by omega, rfl⟩
    case round =>
      obtain ⟨j, hj, rfl⟩ := hrel
      have hj5 : j ≤ 5 := by
        rcases Nat.eq_zero_or_pos j with h | h
        · omega
        · exact small_pow x j hh (hj h)
      by_cases hc : 0 < x / 128 ^ (j + 1)
      · have hd : decide ((0 : Int) < (x : Int) / 2 ^ (7 * j + 7)) = true := by rw [int_div']; exact decide_eq_true (by exact_mod_cast hc)
        have hj51 : j + 1 ≤ 5 := small_pow x (j + 1) hh hc
        go_wp2
        go_round
        case rel => exact ⟨j + 1, fun _ => hc, by go_num⟩
        case measure => simp [intOf]; omega
      · have hd : decide ((0 : Int) < (x : Int) / 2 ^ (7 * j + 7)) = false := by rw [int_div']; exact decide_eq_false (by exact_mod_cast hc)
        have Hc : Hid (x / 128 ^ (j + 1) = 0) := hide (Nat.eq_zero_of_not_pos hc)
        clear hc
        have hjp : ∀ i : Nat, i ≤ j → 0 < i → 0 < x / 128 ^ i := by
          intro i hi h0
          have h1 := hj (by omega)
          have h2 : (128 : Nat) ^ i ≤ 128 ^ j := Nat.pow_le_pow_right (by omega) hi
          have h3 : x / 128 ^ j ≤ x / 128 ^ i := Nat.div_le_div_left h2 (Nat.pow_pos (by omega))
          omega
        go_wp2
        go_loopw [0, 5] (fun b s wx => ∃ i : Nat, i ≤ j ∧ s = .int .i64 (7 * (i : Int)) ∧ wx.ownsRow B 5 1 b (m + (hi (x / 128 ^ (i + 1))).length) (bcs (l ++ hi (x / 128 ^ (i + 1)))) ∧ Below B w wx) (fun _ s _ => (intOf s).toNat)
        case atStart => exact ⟨j, Nat.le_refl _, rfl, by rw [Hc.out]; simpa [hi_zero] using hown, Below.refl _ _⟩
        case round =>
          obtain ⟨i, hij, rfl, hown1, hb1⟩ := hrel
          have hlen : (hi (x / 128 ^ (i + 1))).length ≤ 5 := hi_length _ 5 (by
            have : x / 128 ^ (i + 1) ≤ x / 128 := by rw [Nat.pow_succ, Nat.mul_comm, ← Nat.div_div_eq_div_mul]; exact Nat.div_le_self _ _
            omega)
          have hsz := hb1.size
          by_cases hi00 : 0 < i
          · have Hs := hide (hi_step x i (hjp i hij hi00))
            go_wp2_with (first
              | (at_builtin
                 refine wpList_append_any _ rfl (.tmp 20) (.tmp 26) _ rfl B 5 i0 _ 1 1 Try.underlying30 hi0 hz0 hz1 hz2 rfl (by omega) u0 _ _ rfl
                   (hown1.alloc _) _ _ 1 _ _ rfl (Reads.new1 _ _ _) (one_cell _ _) (by simp only [maxLen]; omega) (by omega) (by simp; omega) ?_
                 intro v1 w1 hown2 hg1 hat1
                 have hb2 : Below B w w1 := (hb1.alloc (by omega) _).grown hg1 (by simp; omega) (fun k hk => (hown1.lt k hk).1)))
            go_roundw
            case rel => exact ⟨i - 1, by omega, by rw [ret_i (show (7 : Int) * (i : Int) - 7 = 7 * ((i - 1 : Nat) : Int) from by omega)], by
              rw [or128_cell, ← bcs_append, List.append_assoc, Hs.out] at hown2
              rw [show i - 1 + 1 = i from by omega]
              have e := congrArg List.length Hs.out
              rw [List.length_append] at e
              rw [← e]
              exact hown2, hb2⟩
            case measure => simp [intOf]; omega
          · have h00 : i = 0 := by omega
            subst h00
            go_wp2_with (first
              | (at_builtin
                 refine wpList_append_any _ rfl (.tmp 28) (.tmp 32) _ rfl B 5 i0 _ 1 1 Try.underlying30 hi0 hz0 hz1 hz2 rfl (by omega) u0 _ _ rfl
                   (hown1.alloc _) _ _ 1 _ _ rfl (Reads.new1 _ _ _) (one_cell _ _) (by simp only [maxLen]; omega) (by omega) (by simp; omega) ?_
                 intro v1 w1 hown2 hg1 hat1
                 have hb2 : Below B w w1 := (hb1.alloc (by omega) _).grown hg1 (by simp; omega) (fun k hk => (hown1.lt k hk).1)))
            go_ret
            refine ⟨v1, rfl, ?_, hb2⟩
            rw [andNot128_cell, ← bcs_append, List.append_assoc] at hown2
            simpa [enc, Nat.add_assoc] using hown2
end Go.Proofs.Ytdggnakjfcmnmaa.Vlq
/-
  The contracts of the program's Put and Text: they answer a new slice, of the bytes that came and behind them the document's. Condition: no more than 10,000,000 bytes and 100,000 numbers come in.
-/
namespace Go.Proofs.Ytdggnakjfcmnmaa.Vlq
open Go.RowKit
set_option linter.unusedVariables false
set_option maxHeartbeats 800000 in
set_option maxRecDepth 100000 in
theorem put_any (A0 : Option Addr) (m0 c0 : Nat) (l0 : List UInt8) (A : Option Addr) (k c : Nat) (l : List Int) (w : World) (hm : m0 ≤ 10000000) (hk : k ≤ 100000)
   (h0 : Reads w w.heap.size 1 A0 m0 (bcs l0)) (h : Reads w w.heap.size 1 A k (ics l)) :
   Calls Try.prog 32 #[.slice A0 m0 c0, .slice A k c] w fun e w' => ∃ v', e = .returned v' ∧ w'.ownsRow w.heap.size 5 1 v' (l0 ++ encs l).length (bcs (l0 ++ encs l)) ∧ Below w.heap.size w w' := by
  obtain ⟨i0, hi0, hz0, hz1, hz2⟩ := info_parts info_u8
  have hlk : l.length = k := by have := h.1; rw [ics_length] at this; omega
  have hl0 : l0.length = m0 := by have := h0.1; rw [bcs_length] at this; omega
  have Hlk := hide hlk
  have Hl0 := hide hl0
  clear hlk hl0
  go_enter Try.func32, Try.ntmps32
  go_wp2_with (first
    | (at_builtin
       refine wpList_append_any _ rfl (.const (.slice none 0 0)) (.tmp 8) _ rfl w.heap.size 5 i0 _ 1 1 Try.underlying30 hi0 hz0 hz1 hz2 rfl (by omega) (.slice none 0 0) 0 _ rfl
         (own_nil _ _ _) w.heap.size A0 m0 c0 _ rfl h0 (bcs_one _) (by simp only [maxLen]; omega) (by omega) (Nat.le_refl _) ?_
       intro v1 w1 hown1 hg1 hat1
       have hb1 : Below w.heap.size w w1 := (Below.refl _ _).grown hg1 (Nat.le_refl _) (by simp [Value.ownBlock])))
  rw [← bcs_append, Nat.zero_add, List.nil_append] at hown1
  go_loopw [5, 12] (fun s t wx => ∃ i : Nat, i ≤ k ∧ t = .int .i64 (i : Int) ∧ wx.ownsRow w.heap.size 5 1 s (l0 ++ encs (l.take i)).length (bcs (l0 ++ encs (l.take i))) ∧ Below w.heap.size w wx) (fun _ t _ => k - (intOf t).toNat)
  case atStart => exact ⟨0, by omega, rfl, by simpa [encs, Hl0.out] using hown1, hb1⟩
  case round =>
    obtain ⟨i, hi, rfl, hown, hb⟩ := hrel
    by_cases hc : i < k
    · obtain ⟨ad, z, rfl, hbl, hz, hcell⟩ := ics_at (h.below hb) hc
      have Hz := hide hz
      clear hz
      have hs1 : (l0 ++ encs (l.take i)).length ≤ 20000000 := by
        have := encs_length (l.take i)
        have h2 : (l.take i).length ≤ i := List.length_take_le _ _
        have h3 := Hl0.out
        rw [List.length_append]
        omega
      go_wp2_with (first
        | (go_at_call 52
           refine (putNum_any z u5 _ _ _ w.heap.size hb.size (by omega) hown).mono ?_
           rintro e w2 ⟨v2, rfl, hown2, hb2⟩))
      go_roundw
      case rel => exact ⟨i + 1, by omega, by go_num, by rw [← List.length_append, List.append_assoc, ← encs_snoc l i z Hz.out] at hown2; exact hown2, hb.trans hb2⟩
      case measure => simp [intOf]; omega
    · go_wp2
      go_ret
      exact ⟨_, rfl, by rw [List.take_of_length_le (by rw [Hlk.out]; omega)] at hown; exact hown, hb⟩
end Go.Proofs.Ytdggnakjfcmnmaa.Vlq
