/-
  The contracts of Put and Text in the form that the laws use, and that of awake: it returns true. Condition: no more than 1,000,000 bytes and 100,000 numbers come in.
-/
import Derived.Test.YtgioaghhfcafpaaVlqRefRd
import Derived.Test.YtgioaghhfcafpaaVlqPut
namespace Go.Proofs.Ytgioaghhfcafpaa.Vlq
open Go.RowKit
set_option linter.unusedVariables false
/-- What a new slice of bytes is: it reads as l, and string() of it is l. -/
def NewB (w : World) (B : Nat) (A : Option Addr) (n c : Nat) (l : List UInt8) : Prop :=
  n = l.length ∧ n ≤ c ∧ w.ownsRow B 5 1 (.slice A n c) n (bcs l) ∧ Reads w w.heap.size 1 A n (bcs l)
theorem NewB.conv {w : World} {B : Nat} {A : Option Addr} {n c : Nat} {l : List UInt8} (h : NewB w B A n c l) : (convert 22 9 (.slice A n c)).run Try.prog w = .ok (.string (str l)) w :=
  run_str w _ _ _ c Try.underlying22 Try.underlying5 Try.underlying9 h.2.2.2
theorem new_of_own {w : World} {B n : Nat} {v : Value} {l : List UInt8} (h : w.ownsRow B 5 1 v n (bcs l)) : ∃ A c, v = .slice A n c ∧ NewB w B A n c l := by
  obtain ⟨A, c, rfl, hc, hm, hr⟩ := own_form h
  have hn : n = l.length := by have := h.1; rw [bcs_length] at this; omega
  exact ⟨A, c, rfl, hn, hc, h, hr⟩
theorem NewB.below {w w' : World} {B : Nat} {A : Option Addr} {n c : Nat} {l : List UInt8} (h : NewB w B A n c l) (hb : Below w.heap.size w w') : NewB w' B A n c l :=
  ⟨h.1, h.2.1, own_below h.2.2.1 hb, (h.2.2.2.below hb).more hb.size⟩
theorem put_new (A0 : Option Addr) (m0 c0 : Nat) (l0 : List UInt8) (A : Option Addr) (k c : Nat) (l : List Int) (w : World) (m : List UInt8) (he : l0 ++ encs l = m) (hm : m0 ≤ 10000000) (hk : k ≤ 100000)
   (h0 : Reads w w.heap.size 1 A0 m0 (bcs l0)) (h : Reads w w.heap.size 1 A k (ics l)) :
   Calls Try.prog 8 #[.slice A0 m0 c0, .slice A k c] w fun e w' => ∃ A n c, e = .returned (.slice A n c) ∧ NewB w' w.heap.size A n c m ∧ Below w.heap.size w w' := by
  refine (put_any A0 m0 c0 l0 A k c l w hm hk h0 h).mono ?_
  rintro e w' ⟨v, rfl, hown, hb⟩
  rw [he] at hown
  obtain ⟨A, c, rfl, hn⟩ := new_of_own hown
  exact ⟨A, _, c, rfl, hn, hb⟩
set_option maxHeartbeats 800000 in
set_option maxRecDepth 100000 in
theorem text_new (A0 : Option Addr) (m0 c0 : Nat) (l0 : List UInt8) (s : ByteArray) (w : World) (m : List UInt8) (he : l0 ++ (enc s.size ++ s.data.toList) = m) (hm : m0 ≤ 1000000) (hs : s.size ≤ 1000000)
   (h0 : Reads w w.heap.size 1 A0 m0 (bcs l0)) :
   Calls Try.prog 9 #[.slice A0 m0 c0, .string s] w fun e w' => ∃ A n c, e = .returned (.slice A n c) ∧ NewB w' w.heap.size A n c m ∧ Below w.heap.size w w' := by
  obtain ⟨i0, hi0, hz0, hz1, hz2⟩ := info_parts info_u8
  have Hm := hide he
  clear he
  have hln : l0.length = m0 := by have := h0.1; rw [bcs_length] at this; omega
  have Hln := hide hln
  clear hln
  have Hn : Hid ((held (s.size : Int)) = s.size) := hide (by have := held_of s.size (by omega) (by omega); omega)
  have hel := enc_length s.size (by omega)
  obtain ⟨W, HW⟩ : ∃ W, Hid (W = w.alloc (.cells #[.int .i64 (s.size : Int)] 3)) := ⟨_, hide rfl⟩
  have Hput := put_new A0 m0 c0 l0 (some ⟨w.heap.size, 0, none⟩) 1 1 [(s.size : Int)] W _ rfl (by omega) (by omega)
    (by rw [HW.out]; exact (h0.alloc (Nat.le_refl _) _).more (by simp)) (by rw [HW.out]; exact (Reads.new1 w _ _).more (by simp))
  have hbW : Below w.heap.size w W := by rw [HW.out]; exact (Below.refl _ _).alloc (Nat.le_refl _) _
  have hWs : w.heap.size < W.heap.size := by rw [HW.out]; simp
  rw [HW.out] at Hput
  have HP := hide Hput
  clear Hput
  go_enter Try.func9, Try.ntmps9
  go_wp2_with (first
    | (go_at_call 8
       refine HP.out.mono ?_
       rintro e w1 ⟨A1, n1, c1, rfl, hn1, hb1⟩
       rw [← HW.out] at hn1 hb1
       have hn1l : n1 ≤ 10000010 := by
         have h3 := hn1.1
         have h4 := Hln.out
         have h5 := encs_length [(s.size : Int)]
         rw [List.length_append] at h3
         simp at h5
         omega
       have hs1 := hb1.size)
    | (at_builtin
       refine Lib.wpList_append_own_string _ rfl (.tmp 9) (.tmp 10) _ _ rfl w.heap.size 5 i0 Try.underlying22 Try.underlying9 hi0 hz0 hz1 hz2 _ n1 _ rfl
         (own_less hn1.2.2.1 (by omega)) s rfl (by simp only [maxLen]; omega) (by omega) (by omega) ?_
       intro v2 w2 hown2 hg2 hat2))
  go_ret
  have hown : w2.ownsRow w.heap.size 5 1 v2 (n1 + s.size) (bcs m) := by
    have e : Lib.strCells s = bcs s.data.toList := rfl
    rw [e, ← bcs_append] at hown2
    have e2 : l0 ++ encs [(s.size : Int)] ++ s.data.toList = m := by
      rw [← Hm.out]
      simp [encs, Hn.out]
    rw [e2] at hown2
    exact hown2
  obtain ⟨A2, c2, rfl, hn2⟩ := new_of_own hown
  refine ⟨A2, _, c2, rfl, hn2, (hbW.trans (hb1.mono (by omega))).grown hg2 (by omega) (fun k hk => ?_)⟩
  have := (hn1.2.2.1.lt k hk).1
  omega
theorem Reads.newL (w : World) (e : TypeId) (vs : Array Value) : Reads (w.alloc (.cells vs e)) (w.heap.size + 1) 1 (some ⟨w.heap.size, 0, none⟩) vs.size vs.toList := by
  refine ⟨by simp, fun _ => ⟨_, rfl, by simp, fun j u hu => ?_⟩⟩
  have hadd : (⟨w.heap.size, 0, none⟩ : Addr).add j = ⟨w.heap.size, j, none⟩ := by unfold Addr.add; split <;> simp_all
  rw [hadd]
  exact ((Blk.new w e vs).cell j).trans (by simpa using hu)
theorem below_of_only {B : Nat} {w0 w w' : World} {g : Nat} (h : Below B w0 w) (hg : w.grownBy w' (some g)) (hB : B ≤ w.heap.size) (hgB : B ≤ g) : Below B w0 w' :=
  h.grown hg hB (fun k hk => by have : g = k := by injection hk
                                omega)
theorem enc300 : enc 300 = [130, 44] := by
  unfold enc
  rw [hi_pos (300 / 128) (by omega), show 300 / 128 / 128 = 0 from by omega, hi_zero]
  rfl
theorem str_toList (l : List UInt8) : (str l).toList = l := ByteArray.toList_mk l
/-- Put of no bytes and one number. -/
theorem put_one (n : Int) (w : World) (m : List UInt8) (he : enc (held n) = m) :
   Calls Try.prog 8 #[.slice none 0 0, .slice (some ⟨w.heap.size, 0, none⟩) 1 1] (w.alloc (.cells #[.int .i64 n] 3)) fun e w' => ∃ A n c, e = .returned (.slice A n c) ∧ NewB w' w.heap.size A n c m ∧ Below w.heap.size w w' := by
  refine (put_new none 0 0 [] (some ⟨w.heap.size, 0, none⟩) 1 1 [n] (w.alloc (.cells #[.int .i64 n] 3)) m (by simp [encs, he]) (by omega) (by omega) Reads.none_ ((Reads.new1 w _ _).more (by simp))).mono ?_
  rintro e w' ⟨A, k, c, rfl, hn, hb⟩
  refine ⟨A, k, c, rfl, ⟨hn.1, hn.2.1, own_less hn.2.2.1 (by simp), hn.2.2.2⟩, ((Below.refl _ _).alloc (Nat.le_refl _) _).trans (hb.mono (by simp))⟩
set_option maxHeartbeats 800000 in
set_option maxRecDepth 100000 in
theorem awake_any (w : World) : Calls Try.prog 7 #[] w fun e w' => e = .returned (.bool true) ∧ Below w.heap.size w w' := by
  have HO := hide (open_any (some ⟨w.heap.size, 0, none⟩) 2 2 [128, 5] (w.alloc (.cells #[.int .u8 128, .int .u8 5] 5)) (by omega) ((Reads.newL w 5 #[.int .u8 128, .int .u8 5]).more (by simp)))
  have hb0 : Below w.heap.size w (w.alloc (.cells #[.int .u8 128, .int .u8 5] 5)) := (Below.refl _ _).alloc (Nat.le_refl _) _
  have HB0 := hide hb0
  clear hb0
  go_enter Try.func7, Try.ntmps7
  go_wp2_with (first
    | (go_at_call 12
       refine HO.out.mono ?_
       rintro e w1 ⟨g, rfl, hg1, hr1, hb1⟩
       have hg1' : w.heap.size < g := by simp at hg1; omega
       have hb1' : Below w.heap.size w w1 := HB0.out.trans (hb1.mono (by simp))
       clear hg1 hb1)
    | (go_at_call 13
       refine (num_any g [128, 5] 0 0 9 _ hr1).mono ?_
       rintro e w2 ⟨rfl, hr2, hg2⟩
       have hn : numR [128, 5] 0 0 9 = (0, 0, 3) := by decide
       rw [hn] at hr2
       rw [hn]
       clear hn
       have hb2 := below_of_only hb1' hg2 hb1'.size (Nat.le_of_lt hg1'))
    | (go_at_call 8
       refine (put_one 300 _ [130, 44] enc300).mono ?_
       rintro e w3 ⟨A3, n3, c3, rfl, hn3, hb3⟩
       have hcv := hn3.conv
       have hr3 := hr2.below hb3 hr2.lt
       have hb3' := hb2.trans (hb3.mono hb2.size)
       have hse : (str [130, 44]).toList = [130, 44] := ByteArray.toList_mk _)
    | (go_at_call 20
       refine (err_any g [128, 5] 0 3 _ hr3).mono ?_
       rintro e w4 ⟨rfl, rfl⟩))
  go_ret
  exact ⟨rfl, hb3'⟩
end Go.Proofs.Ytgioaghhfcafpaa.Vlq
