/-
  The walk of the law VlqPuts: it returns true, and leaves all memory that was there as it was. No condition.
-/
import Derived.Test.YtgioaghhfcafpaaVlqAwake
namespace Go.Proofs.Ytgioaghhfcafpaa.Vlq
open Go.RowKit
set_option linter.unusedVariables false
theorem bytes_of (b : ByteArray) : str b.data.toList = b := str_of b
set_option maxHeartbeats 800000 in
set_option maxRecDepth 100000 in
theorem puts_skip (A0 : Option Addr) (n0 c0 : Nat) (A1 : Option Addr) (n1 c1 : Nat) (s : ByteArray) (w : World) (h : 1000 < n0 ∨ 1000 < s.size ∨ 100 < n1) :
    Calls Try.prog 3 #[.slice A0 n0 c0, .slice A1 n1 c1, .string s] w fun e w' => e = .returned (.bool true) ∧ Below w.heap.size w w' := by
  by_cases h0 : 1000 < n0
  · go_enter Try.func3, Try.ntmps3
    go_wp2_with (first
      | (go_at_call 7
         refine (awake_any _).mono ?_
         rintro e w3 ⟨rfl, hb3⟩))
    go_ret
    exact ⟨rfl, hb3⟩
  · by_cases h1 : 1000 < s.size
    · go_enter Try.func3, Try.ntmps3
      go_wp2_with (first
        | (go_at_call 7
           refine (awake_any _).mono ?_
           rintro e w3 ⟨rfl, hb3⟩))
      go_ret
      exact ⟨rfl, hb3⟩
    · have h2 : 100 < n1 := by omega
      clear h
      go_enter Try.func3, Try.ntmps3
      go_wp2_with (first
        | (go_at_call 7
           refine (awake_any _).mono ?_
           rintro e w3 ⟨rfl, hb3⟩))
      go_ret
      exact ⟨rfl, hb3⟩
theorem own_empty (w : World) (B : Nat) (e : TypeId) (hB : B ≤ w.heap.size) : (w.alloc (.cells #[] e)).ownsRow B e 1 (.slice (some ⟨w.heap.size, 0, none⟩) 0 0) 0 [] :=
  ⟨rfl, .inr ⟨w.heap.size, 0, #[], rfl, hB, heap_alloc_new w _, Nat.le_refl _, Nat.zero_le _, rfl, rfl⟩⟩
theorem four (k : IntKind) (n : Int) : ∀ u ∈ [Value.int k n, .int k n, .int k n, .int k n], u.oneCell' = true := by
  intro u hu
  simp at hu
  subst hu; rfl
set_option maxHeartbeats 1600000 in
set_option maxRecDepth 100000 in
theorem puts_walk (A0 : Option Addr) (n0 c0 : Nat) (l0 : List UInt8) (A1 : Option Addr) (n1 c1 : Nat) (zs : List Int) (s : ByteArray) (w : World) (h0 : n0 ≤ 1000) (h1 : s.size ≤ 1000) (h2 : n1 ≤ 100)
    (hr0 : Reads w w.heap.size 1 A0 n0 (bcs l0)) (hr1 : Reads w w.heap.size 1 A1 n1 (ics zs)) :
    Calls Try.prog 3 #[.slice A0 n0 c0, .slice A1 n1 c1, .string s] w fun e w' => e = .returned (.bool true) ∧ Below w.heap.size w w' := by
  obtain ⟨i0, hi0, hz0, hz1, hz2⟩ := info_parts info_u8
  have hl0 : l0.length = n0 := by have := hr0.1; rw [bcs_length] at this; omega
  have hl1 : zs.length = n1 := by have := hr1.1; rw [ics_length] at this; omega
  obtain ⟨E, HE⟩ : ∃ E, Hid (encs zs = E) := ⟨_, hide rfl⟩
  obtain ⟨T, HT⟩ : ∃ T, Hid (enc s.size ++ s.data.toList = T) := ⟨_, hide rfl⟩
  have hsl : (str l0).size ≤ 1000 := by rw [str_size]; omega
  have hsE : (str E).size ≤ 600 := by
    rw [str_size, ← HE.out]
    have := encs_length zs
    omega
  have hsT : (str T).size ≤ 2000 := by
    rw [str_size, ← HT.out, List.length_append]
    have := enc_length s.size (by omega)
    have : s.data.toList.length = s.size := by rw [Array.length_toList]; rfl
    omega
  have Hl0 := hide hl0
  clear hl0 hl1
  have hcv : (convert 22 9 (.slice A0 n0 c0)).run Try.prog w = .ok (.string (str l0)) w := run_str (P := Try.prog) w 22 9 5 c0 Try.underlying22 Try.underlying5 Try.underlying9 hr0
  have hst := str_toList
  have hap := str_append
  have h7 : str l0 ++ (⟨#[7, 7, 7, 7]⟩ : ByteArray) = str (l0 ++ [7, 7, 7, 7]) := str_append l0 [7, 7, 7, 7]
  have hO := own_empty w w.heap.size 5 (Nat.le_refl _)
  have hR := hr0.alloc (Nat.le_refl _) (.cells #[] 5)
  go_enter Try.func3, Try.ntmps3
  go_wp2_with (first
    | (at_builtin
       refine wpList_append_any _ rfl (.tmp 28) (.tmp 29) _ rfl w.heap.size 5 i0 _ 1 1 Try.underlying22 hi0 hz0 hz1 hz2 rfl (by omega) (.slice (some ⟨w.heap.size, 0, none⟩) 0 0) 0 [] rfl
         hO w.heap.size A0 n0 c0 _ rfl hR (bcs_one _) (by simp only [maxLen]; omega) (by omega) (by simp) ?_
       intro v1 w1 hown1 hg1 hat1
       have hown1' : w1.ownsRow w.heap.size 5 1 v1 n0 (bcs l0) := by simpa using hown1
       have hb1 : Below w.heap.size w w1 := ((Below.refl _ _).alloc (Nat.le_refl _) _).grown hg1 (by simp) (fun k hk => by simp [Value.ownBlock] at hk; omega)
       clear hown1 hg1 hat1 hO hR)
    | (at_builtin
       refine wpList_append_any _ rfl (.tmp 30) (.tmp 31) _ rfl w.heap.size 5 i0 _ 1 1 Try.underlying22 hi0 hz0 hz1 hz2 rfl (by omega) v1 n0 _ rfl
         (hown1'.alloc _) _ _ 4 _ _ rfl (Reads.newL _ _ #[.int .u8 7, .int .u8 7, .int .u8 7, .int .u8 7]) (four _ _) (by simp only [maxLen]; omega) (by omega) (by have := hb1.size; simp; omega) ?_
       intro v2 w2 hown2 hg2 hat2
       have hb2 : Below w.heap.size w w2 := (hb1.alloc hb1.size _).grown hg2 (by have := hb1.size; simp; omega) (fun k hk => (hown1'.lt k hk).1)
       have hown2' : w2.ownsRow w.heap.size 5 1 v2 (n0 + 4) (bcs (l0 ++ [7, 7, 7, 7])) := by rw [bcs_append]; exact hown2
       obtain ⟨A2, c2, rfl, hn2⟩ := new_of_own hown2'
       have hc2 : n0 + 4 ≤ c2 := hn2.2.1
       clear hown2 hg2 hat2 hown2')
    | (go_at_call 8
       refine (put_new A2 n0 c2 l0 A1 n1 c1 zs w2 (l0 ++ E) (by rw [HE.out]) (by omega) (by omega) ?_ ((hr1.below hb2).more hb2.size)).mono ?_
       · have := hn2.2.2.2.take (k := n0) (by omega)
         rw [bcs_take, List.take_append_of_le_length (by rw [Hl0.out]; exact Nat.le_refl _), List.take_of_length_le (by rw [Hl0.out]; exact Nat.le_refl _)] at this
         exact this
       rintro e w3 ⟨A3, n3, c3, rfl, hn3, hb3⟩
       have hcv3 := hn3.conv
       have hb3' := hb2.trans (hb3.mono hb2.size))
    | (go_at_call 9
       refine (text_new A2 n0 c2 l0 s w3 (l0 ++ T) (by rw [HT.out]) (by omega) (by omega) ?_).mono ?_
       · have := (hn2.below hb3).2.2.2.take (k := n0) (by omega)
         rw [bcs_take, List.take_append_of_le_length (by rw [Hl0.out]; exact Nat.le_refl _), List.take_of_length_le (by rw [Hl0.out]; exact Nat.le_refl _)] at this
         exact this
       rintro e w4 ⟨A4, n4, c4, rfl, hn4, hb4⟩
       have hcv4 := hn4.conv
       have hb4' := hb3'.trans (hb4.mono hb3'.size))
    | (go_at_call 10
       refine (refNums_any A1 n1 c1 zs w4 (by omega) ((hr1.below hb4').more hb4'.size)).mono ?_
       rw [HE.out]
       rintro e w5 ⟨rfl, hb5⟩
       have hb5' := hb4'.trans (hb5.mono hb4'.size))
    | (go_at_call 11
       refine (refText_any s w5 (by omega)).mono ?_
       rw [HT.out]
       rintro e w6 ⟨rfl, hb6⟩
       have hb6' := hb5'.trans (hb6.mono hb5'.size)
       have hcv6 := (((hn2.below hb3).below (hb4.mono (Nat.le_refl _))).below hb5).below hb6 |>.conv)
    | (go_at_call 7
       refine (awake_any _).mono ?_
       rintro e w7 ⟨rfl, hb7⟩))
  go_ret
  exact ⟨rfl, hb6'.trans (hb7.mono hb6'.size)⟩
end Go.Proofs.Ytgioaghhfcafpaa.Vlq
