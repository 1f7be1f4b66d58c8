/-
  The contracts of Put and Text in the form that the laws use, and that of awake: it returns true. Condition: no more than 1,000,000 bytes and 100,000 numbers come in.
-/
import Derived.Test.YtbckpcofcgapdaaVlqRefRd
import Derived.Test.YtbckpcofcgapdaaVlqPut
namespace Go.Proofs.Ytbckpcofcgapdaa.Vlq
open Go.RowKit
set_option linter.unusedVariables false
theorem put_new (A0 : Option Addr) (m0 c0 : Nat) (l0 : List UInt8) (A : Option Addr) (k c : Nat) (l : List Int) (w : World) (m : List UInt8) (he : l0 ++ encs l = m) (hm : m0 ≤ 10000000) (hk : k ≤ 100000)
   (h0 : Reads w w.heap.size 1 A0 m0 (bcs l0)) (h : Reads w w.heap.size 1 A k (ics l)) :
   Calls Try.prog 33 #[.slice A0 m0 c0, .slice A k c] w fun e w' => ∃ A n c, e = .returned (.slice A n c) ∧ NewB w' w.heap.size A n c m ∧ Below w.heap.size w w' := by
  refine (put_any A0 m0 c0 l0 A k c l w hm hk h0 h).mono ?_
  rintro e w' ⟨v, rfl, hown, hb⟩
  rw [he] at hown
  obtain ⟨A, c, rfl, hn⟩ := new_of_own hown
  exact ⟨A, _, c, rfl, hn, hb⟩
set_option maxHeartbeats 800000 in
set_option maxRecDepth 100000 in
theorem text_new (A0 : Option Addr) (m0 c0 : Nat) (l0 : List UInt8) (s : ByteArray) (w : World) (m : List UInt8) (he : l0 ++ (enc s.size ++ s.data.toList) = m) (hm : m0 ≤ 1000000) (hs : s.size ≤ 1000000)
   (h0 : Reads w w.heap.size 1 A0 m0 (bcs l0)) :
   Calls Try.prog 20 #[.slice A0 m0 c0, .string s] w fun e w' => ∃ A n c, e = .returned (.slice A n c) ∧ NewB w' w.heap.size A n c m ∧ Below w.heap.size w w' := by
  obtain ⟨i0, hi0, hz0, hz1, hz2⟩ := info_parts info_u8
  have Hm := hide he
  clear he
  have hln : l0.length = m0 := by have := h0.1; rw [bcs_length] at this; omega
  have Hln := hide hln
  clear hln
  have Hn : Hid ((held (s.size : Int)) = s.size) := hide (by have := held_of s.size (by omega) (by omega); omega)
  have hel := enc_length s.size (by omega)
  obtain ⟨W, HW⟩ : ∃ W, Hid (W = w.alloc (.cells #[.int .i64 (s.size : Int)] 3)) := ⟨_, hide rfl⟩
  have Hput := put_new A0 m0 c0 l0 (some ⟨w.heap.size, 0, none⟩) 1 1 [(s.size : Int)] W _ rfl (by omega) (by omega)
    (by rw [HW.out]; exact (h0.alloc (Nat.le_refl _) _).more (by simp)) (by rw [HW.out]; exact (Reads.new1 w _ _).more (by simp))
  have hbW : Below w.heap.size w W := by rw [HW.out]; exact (Below.refl _ _).alloc (Nat.le_refl _) _
  have hWs : w.heap.size < W.heap.size := by rw [HW.out]; simp
  rw [HW.out] at Hput
  have HP := hide Hput
  clear Hput
  go_enter Try.func20, Try.ntmps20
  go_wp2_with (first
    | (go_at_call 33
       refine HP.out.mono ?_
       rintro e w1 ⟨A1, n1, c1, rfl, hn1, hb1⟩
       rw [← HW.out] at hn1 hb1
       have hn1l : n1 ≤ 10000010 := by
         have h3 := hn1.1
         have h4 := Hln.out
         have h5 := encs_length [(s.size : Int)]
         rw [List.length_append] at h3
         simp at h5
         omega
       have hs1 := hb1.size)
    | (at_builtin
       refine Lib.wpList_append_own_string _ rfl (.tmp 9) (.tmp 10) _ _ rfl w.heap.size 5 i0 Try.underlying22 Try.underlying9 hi0 hz0 hz1 hz2 _ n1 _ rfl
         (own_less hn1.2.2.1 (by omega)) s rfl (by simp only [maxLen]; omega) (by omega) (by omega) ?_
       intro v2 w2 hown2 hg2 hat2))
  go_ret
  have hown : w2.ownsRow w.heap.size 5 1 v2 (n1 + s.size) (bcs m) := by
    have e : Lib.strCells s = bcs s.data.toList := rfl
    rw [e, ← bcs_append] at hown2
    have e2 : l0 ++ encs [(s.size : Int)] ++ s.data.toList = m := by
      rw [← Hm.out]
      simp [encs, Hn.out]
    rw [e2] at hown2
    exact hown2
  obtain ⟨A2, c2, rfl, hn2⟩ := new_of_own hown
  refine ⟨A2, _, c2, rfl, hn2, (hbW.trans (hb1.mono (by omega))).grown hg2 (by omega) (fun k hk => ?_)⟩
  have := (hn1.2.2.1.lt k hk).1
  omega
theorem enc300 : enc 300 = [130, 44] := by
  unfold enc
  rw [hi_pos (300 / 128) (by omega), show 300 / 128 / 128 = 0 from by omega, hi_zero]
  rfl
/-- Put of no bytes and one number. -/
theorem put_one (n : Int) (w : World) (m : List UInt8) (he : enc (held n) = m) :
   Calls Try.prog 33 #[.slice none 0 0, .slice (some ⟨w.heap.size, 0, none⟩) 1 1] (w.alloc (.cells #[.int .i64 n] 3)) fun e w' => ∃ A n c, e = .returned (.slice A n c) ∧ NewB w' w.heap.size A n c m ∧ Below w.heap.size w w' := by
  refine (put_new none 0 0 [] (some ⟨w.heap.size, 0, none⟩) 1 1 [n] (w.alloc (.cells #[.int .i64 n] 3)) m (by simp [encs, he]) (by omega) (by omega) Reads.none_ ((Reads.new1 w _ _).more (by simp))).mono ?_
  rintro e w' ⟨A, k, c, rfl, hn, hb⟩
  refine ⟨A, k, c, rfl, ⟨hn.1, hn.2.1, own_less hn.2.2.1 (by simp), hn.2.2.2⟩, ((Below.refl _ _).alloc (Nat.le_refl _) _).trans (hb.mono (by simp))⟩
end Go.Proofs.Ytbckpcofcgapdaa.Vlq
