/-
  The contracts of the program's Seal and Open and of the document's own Open. Condition: no more than 1,000,000 bytes.
-/
import Derived.Test.YtbckpcofcgapdaaStampSeal
namespace Go.Proofs.Ytbckpcofcgapdaa.Stamp
open Go.RowKit
set_option linter.unusedVariables false
theorem four_cells (k : IntKind) (a b c d : Int) : ∀ u ∈ [Value.int k a, .int k b, .int k c, .int k d], u.oneCell' = true := by
  intro u hu
  simp at hu
  rcases hu with rfl | rfl | rfl | rfl <;> rfl
theorem four_bcs (n : Nat) (a b c d : Int) (h0 : a = (n / 16777216 % 256 : Nat)) (h1 : b = (n / 65536 % 256 : Nat)) (h2 : c = (n / 256 % 256 : Nat)) (h3 : d = (n % 256 : Nat)) : [Value.int .u8 a, .int .u8 b, .int .u8 c, .int .u8 d] = bcs (four n) := by
  subst h0 h1 h2 h3
  simp only [bcs, four, List.map_cons, List.map_nil, ofNat_toNat]
set_option maxHeartbeats 1600000 in
set_option maxRecDepth 100000 in
theorem seal_any (A : Option Addr) (n c : Nat) (l : List UInt8) (w : World) (hn : n ≤ 1000000) (h : Reads w w.heap.size 1 A n (bcs l)) :
   Calls Try.prog 19 #[.slice A n c] w fun e w' => ∃ A n c, e = .returned (.slice A n c) ∧ NewB w' w.heap.size A n c (seal_ l) ∧ Below w.heap.size w w' := by
  obtain ⟨i0, hi0, hz0, hz1, hz2⟩ := info_parts info_u8
  have HO := hide (sum_of A n c l w _ (by omega) h)
  have hlt := sum_lt l
  have Hse : Hid (bcs l ++ bcs (four (sum l)) = bcs (seal_ l)) := hide (bcs_append _ _).symm
  generalize sum l = s at *
  have hf := four_bcs s
  have Hf := hide hf
  clear hf
  go_enter Try.func19, Try.ntmps19
  go_wp2_with (first
    | (go_at_call 26
       refine HO.out.mono ?_
       rintro e w1 ⟨rfl, rfl⟩)
    | (at_builtin
       refine wpList_append_any _ rfl (.const (.slice none 0 0)) (.tmp 7) _ rfl w.heap.size 5 i0 _ 1 1 Try.underlying22 hi0 hz0 hz1 hz2 rfl (by omega) (.slice none 0 0) 0 [] rfl
         (own_nil _ _ _) w.heap.size A n c _ rfl h (bcs_one _) (by simp only [maxLen]; omega) (by omega) (Nat.le_refl _) ?_
       intro v1 w1 hown1 hg1 hat1
       have hown1' : w1.ownsRow w.heap.size 5 1 v1 n (bcs l) := by simpa using hown1
       have hb1 : Below w.heap.size w w1 := (Below.refl _ _).grown hg1 (Nat.le_refl _) (fun k hk => by simp [Value.ownBlock] at hk)
       have hs1 := hb1.size
       clear hown1 hg1 hat1)
    | (at_builtin
       refine wpList_append_any _ rfl (.tmp 9) (.tmp 21) _ rfl w.heap.size 5 i0 _ 1 1 Try.underlying22 hi0 hz0 hz1 hz2 rfl (by omega) v1 n _ rfl
         (hown1'.alloc _) _ _ 4 _ _ rfl (Reads.newL _ _ #[_, _, _, _]) (four_cells _ _ _ _ _) (by simp only [maxLen]; omega) (by omega) (by simp; omega) ?_
       rw [show (#[_, _, _, _] : Array Value).toList = bcs (four s) from Hf.out _ _ _ _ (by omega) (by omega) (by omega) (by omega), Hse.out]
       intro v2 w2 hown2 hg2 hat2
       have hb2 : Below w.heap.size w w2 := (hb1.alloc hs1 _).grown hg2 (by simp; omega) (fun k hk => (hown1'.lt k hk).1)
       obtain ⟨A2, c2, rfl, hn2⟩ := new_of_own hown2
       clear hown2 hg2 hat2 hown1'))
  go_ret
  exact ⟨A2, _, c2, rfl, hn2, hb2⟩
set_option maxHeartbeats 1600000 in
set_option maxRecDepth 100000 in
theorem open_yes (A : Option Addr) (m c : Nat) (l : List UInt8) (w : World) (hn : m ≤ 1000000) (hc : m + 4 ≤ c) (h : Reads w w.heap.size 1 A (m + 4) (bcs l)) (ho : opens l) :
   Calls Try.prog 11 #[.slice A (m + 4 : Nat) c] w fun e w' => ∃ A c, e = .returned (.tuple #[.slice A m c, .bool true]) ∧ NewB w' w.heap.size A m c (l.take m) ∧ Below w.heap.size w w' := by
  obtain ⟨i0, hi0, hz0, hz1, hz2⟩ := info_parts info_u8
  have hln : l.length = m + 4 := by have := h.1; rw [bcs_length] at this; omega
  have hci : ¬ c = m := by omega
  have hrc := h.cut (k := m) (cap := c) (by omega) hc
  rw [if_neg hci, Nat.mul_one, bcs_drop, Nat.add_sub_cancel_left] at hrc
  have hle1 : (m : Int) ≤ (m : Int) + 4 := by omega
  have hle2 : (m : Int) ≤ (c : Int) := by omega
  have hle3 : m ≤ c := by omega
  have hrt := h.take (k := m) (by omega)
  rw [bcs_take] at hrt
  have ho2 := (opens_iff l (by omega)).1 ho
  rw [hln, Nat.add_sub_cancel] at ho2
  have HO := hide (fun k => sum_of A m c (l.take m) (w.drewN k) _ (by omega) (hrt.drewN k))
  have HN := hide (fun k => number_any _ _ (c - m) (l.drop m) (w.drewN k) _ (by omega) (hrc.drewN k))
  rw [ho2] at HN
  have hlt := sum_lt (l.take m)
  clear ho2 ho
  have Hln := hide hln
  clear hln
  generalize sum (l.take m) = s at *
  go_enter Try.func11, Try.ntmps11
  go_wp2
  go_quiet ((first
    | (go_at_call 25; exact quiet_left (HN.out _))
    | (go_at_call 26; exact quiet_left (HO.out _))))
  go_wp2_with (first
    | (at_builtin
       refine wpList_append_any _ rfl (.const (.slice none 0 0)) (.tmp 22) _ rfl w.heap.size 5 i0 _ 1 1 Try.underlying22 hi0 hz0 hz1 hz2 rfl (by omega) (.slice none 0 0) 0 [] rfl
         (own_nil _ _ _) w.heap.size A m c _ rfl (hrt.drewN _) (bcs_one _) (by simp only [maxLen]; omega) (by omega) (Nat.le_refl _) ?_
       intro v1 w1 hown1 hg1 hat1
       have hown1' : w1.ownsRow w.heap.size 5 1 v1 m (bcs (l.take m)) := by simpa using hown1
       have hb1 : Below w.heap.size w w1 := (below_drewN (Below.refl _ _) _).grown hg1 (Nat.le_refl _) (fun k hk => by simp [Value.ownBlock] at hk)
       obtain ⟨A1, c1, rfl, hn1⟩ := new_of_own hown1'
       clear hown1 hg1 hat1 hown1'))
  go_ret2
  exact ⟨A1, c1, rfl, hn1, hb1⟩
theorem open_short (A : Option Addr) (n c : Nat) (w : World) (hn : n < 4) :
   Calls Try.prog 11 #[.slice A n c] w fun e w' => e = .returned (.tuple #[.slice none 0 0, .bool false]) ∧ ∃ k, w' = w.drewN k := by
  go_enter Try.func11, Try.ntmps11
  go_wp2
  go_ret2
  exact ⟨rfl, 0, rfl⟩
set_option maxHeartbeats 1600000 in
set_option maxRecDepth 100000 in
theorem open_no (A : Option Addr) (m c : Nat) (l : List UInt8) (w : World) (hn : m ≤ 1000000) (hc : m + 4 ≤ c) (h : Reads w w.heap.size 1 A (m + 4) (bcs l)) (ho : ¬ opens l) :
   Calls Try.prog 11 #[.slice A (m + 4 : Nat) c] w fun e w' => e = .returned (.tuple #[.slice none 0 0, .bool false]) ∧ ∃ k, w' = w.drewN k := by
  have hln : l.length = m + 4 := by have := h.1; rw [bcs_length] at this; omega
  have hci : ¬ c = m := by omega
  have hrc := h.cut (k := m) (cap := c) (by omega) hc
  rw [if_neg hci, Nat.mul_one, bcs_drop, Nat.add_sub_cancel_left] at hrc
  have hle1 : (m : Int) ≤ (m : Int) + 4 := by omega
  have hle2 : (m : Int) ≤ (c : Int) := by omega
  have hle3 : m ≤ c := by omega
  have hrt := h.take (k := m) (by omega)
  rw [bcs_take] at hrt
  have ho2 : ¬ num (l.drop m) = sum (l.take m) := by
    have := mt (opens_iff l (by omega)).2 ho
    rwa [hln, Nat.add_sub_cancel] at this
  have HO := hide (fun k => sum_of A m c (l.take m) (w.drewN k) _ (by omega) (hrt.drewN k))
  have HN := hide (fun k => number_any _ _ (c - m) (l.drop m) (w.drewN k) _ (by omega) (hrc.drewN k))
  have hlt := sum_lt (l.take m)
  have hlt2 := num_lt (l.drop m)
  have Hln := hide hln
  clear hln ho
  generalize sum (l.take m) = s at *
  generalize num (l.drop m) = x at *
  have hne : ((x : Int) != (s : Int)) = true := by rw [bne_iff_ne]; omega
  have hne2 : ((x : Int) == (s : Int)) = false := by rw [beq_eq_false_iff_ne]; omega
  clear ho2
  go_enter Try.func11, Try.ntmps11
  go_wp2
  go_quiet ((first
    | (go_at_call 25; exact quiet_left (HN.out _))
    | (go_at_call 26; exact quiet_left (HO.out _))))
  go_wp2
  go_ret2
  exact ⟨rfl, nq, rfl⟩
theorem opens_not_short (l : List UInt8) (h : l.length < 4) : ¬ opens l := by
  rintro ⟨h1, _⟩; omega
/-- What is not opened, however long it is. -/
theorem open_none (A : Option Addr) (n c : Nat) (l : List UInt8) (w : World) (hn : n ≤ 1000000) (hc : n ≤ c) (h : Reads w w.heap.size 1 A n (bcs l)) (ho : ¬ opens l) :
   Calls Try.prog 11 #[.slice A n c] w fun e w' => e = .returned (.tuple #[.slice none 0 0, .bool false]) ∧ ∃ k, w' = w.drewN k := by
  rcases Nat.lt_or_ge n 4 with h4 | h4
  · exact open_short A n c w h4
  · obtain ⟨m, rfl⟩ : ∃ m, n = m + 4 := ⟨n - 4, by omega⟩
    exact open_no A m c l w (by omega) hc h ho
/-- The document's own Open, of texts. -/
theorem refOpen_yes (l : List UInt8) (m : Nat) (w : World) (hn : l.length = m + 4) (hm : m ≤ 1000000) (ho : opens l) :
   Calls Try.prog 16 #[.string (str l)] w fun e w' => e = .returned (.tuple #[.string (str (l.take m)), .bool true]) ∧ Below w.heap.size w w' := by
  have hs := (opens_seal l (by omega)).1 ho
  rw [hn, Nat.add_sub_cancel] at hs
  have HS := hide (refSeal_any (l.take m) w (by rw [List.length_take]; omega))
  rw [hs] at HS
  have hse := str_extract l 0 m
  rw [List.drop_zero, Nat.sub_zero] at hse
  have hsz : (str l).size = m + 4 := by rw [str_size]; exact hn
  have hsz1 : m ≤ (str l).size := by omega
  have hst := str_toList
  clear hs hn ho
  have Hsz := hide hsz
  go_enter Try.func16, Try.ntmps16
  go_wp2_with (first
    | (go_at_call 21
       refine HS.out.mono ?_
       rintro e w1 ⟨rfl, hb1⟩))
  go_ret2
  exact ⟨rfl, hb1⟩
end Go.Proofs.Ytbckpcofcgapdaa.Stamp
