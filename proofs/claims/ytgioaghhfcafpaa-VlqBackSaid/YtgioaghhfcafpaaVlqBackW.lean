/-
  The walk of the law VlqBack: it returns true, and leaves all memory that was there as it was. No condition.
-/
import Derived.Test.YtgioaghhfcafpaaVlqBackM
import Derived.Test.YtgioaghhfcafpaaVlqPutsW
namespace Go.Proofs.Ytgioaghhfcafpaa.Vlq
open Go.RowKit
set_option linter.unusedVariables false
set_option maxHeartbeats 800000 in
set_option maxRecDepth 100000 in
theorem back_skip (n : Int) (s : ByteArray) (A2 : Option Addr) (n2 c2 : Nat) (w : World) (h : n < 0 ∨ 1099511627776 < n ∨ 1000 < s.size ∨ 1000 < n2) :
    Calls Try.prog 5 #[.int .i64 n, .string s, .slice A2 n2 c2] w fun e w' => e = .returned (.bool true) ∧ Below w.heap.size w w' := by
  by_cases h0 : n < 0
  · go_enter Try.func5, Try.ntmps5
    go_wp2_with (first
      | (go_at_call 7
         refine (awake_any _).mono ?_
         rintro e w3 ⟨rfl, hb3⟩))
    go_ret
    exact ⟨rfl, hb3⟩
  · by_cases h1 : 1099511627776 < n
    · go_enter Try.func5, Try.ntmps5
      go_wp2_with (first
        | (go_at_call 7
           refine (awake_any _).mono ?_
           rintro e w3 ⟨rfl, hb3⟩))
      go_ret
      exact ⟨rfl, hb3⟩
    · by_cases h2 : 1000 < s.size
      · go_enter Try.func5, Try.ntmps5
        go_wp2_with (first
          | (go_at_call 7
             refine (awake_any _).mono ?_
             rintro e w3 ⟨rfl, hb3⟩))
        go_ret
        exact ⟨rfl, hb3⟩
      · have h3 : 1000 < n2 := by omega
        clear h
        go_enter Try.func5, Try.ntmps5
        go_wp2_with (first
          | (go_at_call 7
             refine (awake_any _).mono ?_
             rintro e w3 ⟨rfl, hb3⟩))
        go_ret
        exact ⟨rfl, hb3⟩
set_option maxHeartbeats 1600000 in
set_option maxRecDepth 100000 in
theorem back_walk (n : Nat) (sl : List UInt8) (A2 : Option Addr) (n2 c2 : Nat) (ml : List UInt8) (w : World) (h0 : n ≤ 1099511627776) (h1 : (str sl).size ≤ 1000) (h2 : n2 ≤ 1000)
    (hr : Reads w w.heap.size 1 A2 n2 (bcs ml)) :
    Calls Try.prog 5 #[.int .i64 (n : Int), .string (str sl), .slice A2 n2 c2] w fun e w' => e = .returned (.bool true) ∧ Below w.heap.size w w' := by
  obtain ⟨i0, hi0, hz0, hz1, hz2⟩ := info_parts info_u8
  have hml : ml.length = n2 := by have := hr.1; rw [bcs_length] at this; omega
  have hsl : sl.length ≤ 1000 := by rw [str_size] at h1; exact h1
  have Hss := hide (str_size sl)
  obtain ⟨E, HE⟩ : ∃ E, Hid (E = enc n) := ⟨_, hide rfl⟩
  obtain ⟨F, HF⟩ : ∃ F, Hid (F = enc n ++ (enc sl.length ++ sl)) := ⟨_, hide rfl⟩
  have hE6 := enc_length n h0
  have hS6 := enc_length sl.length (by omega)
  have hFl : F.length ≤ 2000 := by rw [HF.out]; simp only [List.length_append]; omega
  have Hheld : Hid (enc (held (n : Int)) = E) := hide (by
    rw [HE.out, show held (n : Int) = n from by have := held_of n (by omega) (by omega); omega])
  have HFt : Hid (E ++ (enc (str sl).size ++ (str sl).data.toList) = F) := hide (by rw [HE.out, HF.out, str_size]; simp [str])
  obtain ⟨k1, Hk1⟩ : ∃ k1, Hid (k1 = (enc n).length) := ⟨_, hide rfl⟩
  obtain ⟨k2, Hk2⟩ : ∃ k2, Hid (k2 = (enc n).length + ((enc sl.length).length + sl.length)) := ⟨_, hide rfl⟩
  have HN : Hid (numR (F ++ ml) 0 0 (n : Int) = ((n : Int), k1, 0)) := hide (by
    have := numR_enc n h0 [] (enc sl.length ++ (sl ++ ml)) (n : Int) (Int.le_refl _)
    rw [HF.out, Hk1.out]
    simpa using this)
  have HS : Hid (strR (F ++ ml) k1 0 ((str sl).size : Int) = (sl, k2, 0)) := hide (by
    have := strR_enc sl (enc n) ml (by omega) (sl.length : Int) (Int.le_refl _)
    rw [HF.out, Hk1.out, Hk2.out, str_size]
    simpa using this)
  have hleft : (((F ++ ml).length : Int) - (k2 : Int) == (n2 : Int)) = true := beq_iff_eq.2 (by
    have e : (F ++ ml).length = k2 + n2 := by rw [HF.out, Hk2.out, ← hml]; simp only [List.length_append] <;> omega
    omega)
  obtain ⟨L, HL⟩ : ∃ L, Hid (L = F ++ ml) := ⟨_, hide rfl⟩
  have hLl : L.length ≤ 3000 := by rw [HL.out, List.length_append]; omega
  rw [← HL.out] at HN HS hleft
  have Hml := hide hml
  clear hml
  have hst := str_toList
  go_enter Try.func5, Try.ntmps5
  go_wp2_with (first
    | (go_at_call 8
       refine (put_one (n : Int) w E Hheld.out).mono ?_
       rintro e w1 ⟨A3, n3, c3, rfl, hn3, hb1⟩
       have hn3l : n3 ≤ 6 := by rw [hn3.1, HE.out]; exact hE6)
    | (go_at_call 9
       refine (text_new A3 n3 c3 E (str sl) w1 F HFt.out (by omega) (by omega) hn3.2.2.2).mono ?_
       rintro e w2 ⟨A4, n4, c4, rfl, hn4, hb2⟩
       have hb2' : Below w.heap.size w w2 := hb1.trans (hb2.mono hb1.size)
       have hn4l : n4 ≤ 2000 := by rw [hn4.1]; exact hFl
       have hO := own_empty w2 w.heap.size 5 hb2'.size
       have hR := hn4.2.2.2.alloc (Nat.le_refl _) (.cells #[] 5))
    | (at_builtin
       refine wpList_append_any _ rfl (.tmp 33) (.tmp 34) _ rfl w.heap.size 5 i0 _ 1 1 Try.underlying22 hi0 hz0 hz1 hz2 rfl (by omega) (.slice (some ⟨w2.heap.size, 0, none⟩) 0 0) 0 [] rfl
         hO w2.heap.size A4 n4 c4 _ rfl hR (bcs_one _) (by simp only [maxLen]; omega) (by omega) (by have := hb2'.size; simp; omega) ?_
       intro v3 w3 hown3 hg3 hat3
       have hown3' : w3.ownsRow w.heap.size 5 1 v3 n4 (bcs F) := by simpa using hown3
       have hb3 : Below w.heap.size w w3 := (hb2'.alloc hb2'.size _).grown hg3 (by have := hb2'.size; simp; omega) (fun k hk => by have := hb2'.size; simp [Value.ownBlock] at hk; omega)
       have hR3 := (hr.below hb3).more hb3.size
       clear hown3 hg3 hat3 hO hR)
    | (at_builtin
       refine wpList_append_any _ rfl (.tmp 35) (.tmp 36) _ rfl w.heap.size 5 i0 _ 1 1 Try.underlying22 hi0 hz0 hz1 hz2 rfl (by omega) v3 n4 _ rfl
         hown3' _ A2 n2 c2 _ rfl hR3 (bcs_one _) (by simp only [maxLen]; omega) (by omega) hb3.size ?_
       intro v5 w5 hown5 hg5 hat5
       have hown5' : w5.ownsRow w.heap.size 5 1 v5 (n4 + n2) (bcs L) := by rw [HL.out, bcs_append]; exact hown5
       have hb5 : Below w.heap.size w w5 := hb3.grown hg5 hb3.size (fun k hk => (hown3'.lt k hk).1)
       obtain ⟨A5, c5, rfl, hn5⟩ := new_of_own hown5'
       clear hown5 hg5 hat5 hown5')
    | (go_at_call 12
       refine (open_any A5 _ c5 L w5 (by omega) hn5.2.2.2).mono ?_
       rintro e w6 ⟨g, rfl, hgl, hr6, hb6⟩
       have hgw : w.heap.size ≤ g := Nat.le_trans hb5.size hgl
       have hb6' : Below w.heap.size w w6 := hb5.trans (hb6.mono hb5.size))
    | (go_at_call 13
       refine (num_any g L 0 0 (n : Int) _ hr6).mono ?_
       rw [HN.out]
       rintro e w7 ⟨rfl, hr7, hg7⟩
       have hb7 := below_of_only hb6' hg7 hb6'.size hgw)
    | (go_at_call 15
       refine (str_any g L k1 0 ((str sl).size : Int) _ hr7).mono ?_
       rw [HS.out]
       rintro e w8 ⟨rfl, hr8, hg8⟩
       have hb8 := below_of_only hb7 hg8 hb7.size hgw)
    | (go_at_call 20
       refine (err_any g L k2 0 _ hr8).mono ?_
       rintro e w9 ⟨rfl, rfl⟩)
    | (go_at_call 19
       refine (left_any g L k2 0 _ hr8).mono ?_
       rintro e w9 ⟨rfl, nd, rfl⟩
       have hb9 := below_drewN hb8 nd)
    | (go_at_call 7
       refine (awake_any _).mono ?_
       rintro e w10 ⟨rfl, hb10⟩))
  go_ret
  exact ⟨rfl, hb9.trans (hb10.mono hb9.size)⟩
end Go.Proofs.Ytgioaghhfcafpaa.Vlq
