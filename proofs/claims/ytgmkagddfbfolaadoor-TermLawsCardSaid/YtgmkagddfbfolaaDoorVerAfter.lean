/-
  The contracts of the program's and the document's own After, and of the document's digits and text. Condition: the program's table holds what its text lays in it.
-/
import Derived.Test.YtgmkagddfbfolaaDoorVerPlace
namespace Go.Proofs.YtgmkagddfbfolaaDoor.Ver
open Go.RowKit Go.Lib
set_option linter.unusedVariables false
theorem end_v {k : IntKind} {a b : Int} (h : a = b) : Ending.returned (Value.int k a) = Ending.returned (.int k b) := by rw [h]
theorem conv1 (W : World) (z : Int) : (convert 69 9 (.slice (some ⟨W.heap.size, 0, none⟩) 1 1)).run Tryd.prog (W.alloc (.cells #[.int .u8 z] 5)) = .ok (.string (strOfNums [z])) (W.alloc (.cells #[.int .u8 z] 5)) :=
  conv_new W [z] 1
theorem strOfNums_one (z : Int) (y : Nat) (h : z = (y : Int)) : strOfNums [z] = str [UInt8.ofNat y] := by subst h; simp [strOfNums, str]
theorem one_size (z : Int) : (strOfNums [z]).size = 1 := by rw [strOfNums_size]; rfl
theorem end_s {a b : ByteArray} (h : a = b) : Ending.returned (Value.string a) = Ending.returned (.string b) := by rw [h]
set_option maxRecDepth 100000 in
theorem digits1 (n : Nat) (w : World) (h : n < 10) :
    Calls Tryd.prog 81 #[.int .i64 (n : Int)] w fun e w' => e = .returned (.string (str (decDigits n))) ∧ Below w.heap.size w w' := by
  have hcv := conv1
  go_enter Tryd.func81, Tryd.ntmps81
  go_wp2
  go_ret
  exact ⟨end_s (by rw [strOfNums_one _ (48 + n) (by omega), decDigits_one h]), (Below.refl _ _).alloc (Nat.le_refl _) _⟩
set_option maxRecDepth 100000 in
theorem digits_more (n : Nat) (w : World) (h0 : ¬ n < 10) (h : n < 1000) (H : ∀ wx, Calls Tryd.prog 81 #[.int .i64 ((n / 10 : Nat) : Int)] wx fun e w' => e = .returned (.string (str (decDigits (n / 10)))) ∧ Below wx.heap.size wx w') :
    Calls Tryd.prog 81 #[.int .i64 (n : Int)] w fun e w' => e = .returned (.string (str (decDigits n))) ∧ Below w.heap.size w w' := by
  have hcv := conv1
  have Hh := hide H
  have hl := (dec_len (n := n / 10) (by omega)).2
  have hsz : (str (decDigits (n / 10))).size ≤ 3 := by rw [str_size]; exact hl
  have hs1 := one_size
  clear H hl
  go_enter Tryd.func81, Tryd.ntmps81
  go_wp2_with (first
    | (go_at_call 81
       refine (Hh.out _).mono ?_
       rintro e w1 ⟨rfl, hb1⟩))
  go_ret
  exact ⟨end_s (by rw [strOfNums_one _ (48 + n % 10) (by omega), str_append, decDigits.eq_1 n, dif_neg h0]), ((Below.refl _ _).alloc (Nat.le_refl _) _).trans (hb1.mono (by simp))⟩
theorem digits_any (n : Nat) (w : World) (h : n < 1000) :
    Calls Tryd.prog 81 #[.int .i64 (n : Int)] w fun e w' => e = .returned (.string (str (decDigits n))) ∧ Below w.heap.size w w' := by
  by_cases h0 : n < 10
  · exact digits1 n w h0
  · refine digits_more n w h0 h fun wx => ?_
    by_cases h1 : n / 10 < 10
    · exact digits1 _ wx h1
    · exact digits_more _ wx h1 (by omega) fun wy => digits1 _ wy (by omega)
end Go.Proofs.YtgmkagddfbfolaaDoor.Ver
