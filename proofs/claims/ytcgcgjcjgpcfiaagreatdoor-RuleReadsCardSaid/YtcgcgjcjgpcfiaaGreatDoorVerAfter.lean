/-
  The contracts of the program's and the document's own After, and of the document's digits and text. Condition: the program's table holds what its text lays in it.
-/
import Derived.Test.YtcgcgjcjgpcfiaaGreatDoorVerPlace
namespace Go.Proofs.YtcgcgjcjgpcfiaaGreatDoor.Ver
open Go.RowKit Go.Lib
set_option linter.unusedVariables false
theorem end_v {k : IntKind} {a b : Int} (h : a = b) : Ending.returned (Value.int k a) = Ending.returned (.int k b) := by rw [h]
theorem after_yes (p k : Nat) (w : World) (hp : p < 1000000000) (hk : k < 3) (hT : Tabs w) :
    Calls Tryz.prog 17 #[.int .i64 (p : Int), .int .i64 (k : Int)] w fun e w' => e = .returned (.int .i64 (afterN p k : Nat)) ∧ w = w' := by
  have H := hide (fun wx => fit_yes p wx (by omega) (by omega))
  obtain ⟨hg, h0, h1, h2⟩ := hT.units
  have hc : k = 0 ∨ k = 1 ∨ k = 2 := by omega
  clear hT hk
  rcases hc with rfl | rfl | rfl
  all_goals (
    go_enter Tryz.func17, Tryz.ntmps17
    go_wp2_with (first
      | (go_at_call 42
         refine (H.out _).mono ?_
         rintro e w1 ⟨rfl, rfl⟩))
    go_ret
    exact ⟨end_v (by simp [afterN, unitN]), rfl⟩)
theorem after_no (p k : Int) (w : World) (h : ¬ ((0 ≤ p ∧ p < 1000000000) ∧ 0 ≤ k ∧ k < 3)) :
    Calls Tryz.prog 17 #[.int .i64 p, .int .i64 k] w fun e w' => e = .returned (.int .i64 0) ∧ w = w' := by
  by_cases hf : 0 ≤ p ∧ p < 1000000000
  · have H := hide (fun wx => fit_yes p wx hf.1 hf.2)
    have hk : k < 0 ∨ 3 ≤ k := by omega
    clear h
    go_enter Tryz.func17, Tryz.ntmps17
    rcases hk with hk | hk
    all_goals (
      go_wp2_with (first
        | (go_at_call 42
           refine (H.out _).mono ?_
           rintro e w1 ⟨rfl, rfl⟩))
      go_ret
      exact ⟨rfl, rfl⟩)
  · have H := hide (fun wx => fit_no p wx hf)
    clear h hf
    go_enter Tryz.func17, Tryz.ntmps17
    go_wp2_with (first
      | (go_at_call 42
         refine (H.out _).mono ?_
         rintro e w1 ⟨rfl, rfl⟩))
    go_ret
    exact ⟨rfl, rfl⟩
theorem refAfter_yes (p k : Nat) (w : World) (hp : p < 1000000000) (hk : k < 3) :
    Calls Tryz.prog 22 #[.int .i64 (p : Int), .int .i64 (k : Int)] w fun e w' => e = .returned (.int .i64 (afterN p k : Nat)) ∧ w = w' := by
  have H := hide (fun wx => refFit_yes p wx (by omega) (by omega))
  have hc : k = 0 ∨ k = 1 ∨ k = 2 := by omega
  clear hk
  rcases hc with rfl | rfl | rfl
  · go_enter Tryz.func22, Tryz.ntmps22
    go_wp2_with (first
      | (go_at_call 49
         refine (H.out _).mono ?_
         rintro e w1 ⟨rfl, rfl⟩))
    refine wp_loop_rounds 3 ?_
    rw [rounds_succ]; go_wp2
    rw [rounds_succ]; go_wp2
    rw [rounds_succ]; go_wp2
    go_ret
    exact ⟨end_v (by simp [afterN, unitN]), rfl⟩
  · go_enter Tryz.func22, Tryz.ntmps22
    go_wp2_with (first
      | (go_at_call 49
         refine (H.out _).mono ?_
         rintro e w1 ⟨rfl, rfl⟩))
    refine wp_loop_rounds 2 ?_
    rw [rounds_succ]; go_wp2
    rw [rounds_succ]; go_wp2
    go_ret
    exact ⟨end_v (by simp [afterN, unitN]), rfl⟩
  · go_enter Tryz.func22, Tryz.ntmps22
    go_wp2_with (first
      | (go_at_call 49
         refine (H.out _).mono ?_
         rintro e w1 ⟨rfl, rfl⟩))
    refine wp_loop_rounds 1 ?_
    rw [rounds_succ]; go_wp2
    go_ret
    exact ⟨end_v (by simp [afterN, unitN]), rfl⟩
theorem refAfter_no (p k : Int) (w : World) (h : ¬ ((0 ≤ p ∧ p < 1000000000) ∧ 0 ≤ k ∧ k < 3)) :
    Calls Tryz.prog 22 #[.int .i64 p, .int .i64 k] w fun e w' => e = .returned (.int .i64 0) ∧ w = w' := by
  by_cases hf : 0 ≤ p ∧ p < 1000000000
  · have H := hide (fun wx => refFit_yes p wx hf.1 hf.2)
    have hk : k < 0 ∨ 2 < k := by omega
    clear h
    go_enter Tryz.func22, Tryz.ntmps22
    rcases hk with hk | hk
    all_goals (
      go_wp2_with (first
        | (go_at_call 49
           refine (H.out _).mono ?_
           rintro e w1 ⟨rfl, rfl⟩))
      go_ret
      exact ⟨rfl, rfl⟩)
  · have H := hide (fun wx => refFit_no p wx hf)
    clear h hf
    go_enter Tryz.func22, Tryz.ntmps22
    go_wp2_with (first
      | (go_at_call 49
         refine (H.out _).mono ?_
         rintro e w1 ⟨rfl, rfl⟩))
    go_ret
    exact ⟨rfl, rfl⟩
theorem conv1 (W : World) (z : Int) : (convert 81 9 (.slice (some ⟨W.heap.size, 0, none⟩) 1 1)).run Tryz.prog (W.alloc (.cells #[.int .u8 z] 5)) = .ok (.string (strOfNums [z])) (W.alloc (.cells #[.int .u8 z] 5)) :=
  conv_new W [z] 1
theorem strOfNums_one (z : Int) (y : Nat) (h : z = (y : Int)) : strOfNums [z] = str [UInt8.ofNat y] := by subst h; simp [strOfNums, str]
theorem one_size (z : Int) : (strOfNums [z]).size = 1 := by rw [strOfNums_size]; rfl
theorem end_s {a b : ByteArray} (h : a = b) : Ending.returned (Value.string a) = Ending.returned (.string b) := by rw [h]
set_option maxRecDepth 100000 in
theorem digits1 (n : Nat) (w : World) (h : n < 10) :
    Calls Tryz.prog 67 #[.int .i64 (n : Int)] w fun e w' => e = .returned (.string (str (decDigits n))) ∧ Below w.heap.size w w' := by
  have hcv := conv1
  go_enter Tryz.func67, Tryz.ntmps67
  go_wp2
  go_ret
  exact ⟨end_s (by rw [strOfNums_one _ (48 + n) (by omega), decDigits_one h]), (Below.refl _ _).alloc (Nat.le_refl _) _⟩
set_option maxRecDepth 100000 in
theorem digits_more (n : Nat) (w : World) (h0 : ¬ n < 10) (h : n < 1000) (H : ∀ wx, Calls Tryz.prog 67 #[.int .i64 ((n / 10 : Nat) : Int)] wx fun e w' => e = .returned (.string (str (decDigits (n / 10)))) ∧ Below wx.heap.size wx w') :
    Calls Tryz.prog 67 #[.int .i64 (n : Int)] w fun e w' => e = .returned (.string (str (decDigits n))) ∧ Below w.heap.size w w' := by
  have hcv := conv1
  have Hh := hide H
  have hl := (dec_len (n := n / 10) (by omega)).2
  have hsz : (str (decDigits (n / 10))).size ≤ 3 := by rw [str_size]; exact hl
  have hs1 := one_size
  clear H hl
  go_enter Tryz.func67, Tryz.ntmps67
  go_wp2_with (first
    | (go_at_call 67
       refine (Hh.out _).mono ?_
       rintro e w1 ⟨rfl, hb1⟩))
  go_ret
  exact ⟨end_s (by rw [strOfNums_one _ (48 + n % 10) (by omega), str_append, decDigits.eq_1 n, dif_neg h0]), ((Below.refl _ _).alloc (Nat.le_refl _) _).trans (hb1.mono (by simp))⟩
theorem digits_any (n : Nat) (w : World) (h : n < 1000) :
    Calls Tryz.prog 67 #[.int .i64 (n : Int)] w fun e w' => e = .returned (.string (str (decDigits n))) ∧ Below w.heap.size w w' := by
  by_cases h0 : n < 10
  · exact digits1 n w h0
  · refine digits_more n w h0 h fun wx => ?_
    by_cases h1 : n / 10 < 10
    · exact digits1 _ wx h1
    · exact digits_more _ wx h1 (by omega) fun wy => digits1 _ wy (by omega)
end Go.Proofs.YtcgcgjcjgpcfiaaGreatDoor.Ver
