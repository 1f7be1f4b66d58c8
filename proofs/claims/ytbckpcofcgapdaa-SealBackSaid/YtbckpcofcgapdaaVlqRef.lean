/-
  The contracts of the document's own Num, Nums and Text: they answer the bytes as the plain mathematics has them. Condition: lists and texts as long as a call may have them.
-/
import Derived.Test.YtbckpcofcgapdaaWords
import Derived.Test.YtbckpcofcgapdaaVlqMath
import Derived.Test.YtbckpcofcgapdaaChecked
namespace Go.Proofs.Ytbckpcofcgapdaa.Vlq
open Go.RowKit
set_option linter.unusedVariables false
theorem conv1 (W : World) (z : Int) : (convert 22 9 (.slice (some ⟨W.heap.size, 0, none⟩) 1 1)).run Try.prog (W.alloc (.cells #[.int .u8 z] 5)) = .ok (.string (strOfNums [z])) (W.alloc (.cells #[.int .u8 z] 5)) := by
  refine run_convert_bytes_arg (P := Try.prog) (W.alloc (.cells #[.int .u8 z] 5)) 22 5 Try.underlying22 Try.underlying5 W.heap.size 0 1 1 [z] rfl ?_ 9 Try.underlying9
  intro i hi
  have h0 : i = 0 := by omega
  subst h0
  exact (World.cell?_alloc_at _ _ _ _ rfl).trans rfl
theorem strOfNums_one (z : Int) (y : Nat) (h : z = (y : Int)) : strOfNums [z] = str [UInt8.ofNat y] := by subst h; simp [strOfNums, str]
set_option maxHeartbeats 800000 in
set_option maxRecDepth 100000 in
theorem refNum_any (n : Int) (w : World) :
   Calls Try.prog 35 #[.int .i64 n] w fun e w' => e = .returned (.string (str (enc (held n)))) ∧ Below w.heap.size w w' := by
  obtain ⟨x, Hx⟩ : ∃ x, Hid (x = held n) := ⟨_, hide rfl⟩
  have hh : x ≤ 1099511627776 := by rw [Hx.out]; exact held_le n
  rw [← Hx.out]
  have hcv := conv1
  go_enter Try.func35, Try.ntmps35
  go_upto_region 1 with fail
  go_cut [0] (fun s1 wx => s1 = .int .i64 x ∧ w = wx)
  case first =>
    go_wp2_with fail
    all_goals (go_meet; exact ⟨ret_i (by rw [Hx.out]; unfold held; omega), rfl⟩)
  case rest =>
    obtain ⟨rfl, rfl⟩ := hcut
    go_wp2

    go_loopw [0, 3] (fun t s wx => ∃ (y : Nat) (l : List UInt8), y ≤ 1099511627776 ∧ t = .int .i64 (y : Int) ∧ s = .string (str l) ∧ hi (y / 128) ++ l = enc x ∧ Below w.heap.size w wx) (fun t _ _ => (intOf t).toNat)
    case atStart => exact ⟨x, [UInt8.ofNat (x % 128)], hh, rfl, by rw [strOfNums_one _ (x % 128) (by omega)], rfl, (Below.refl _ _).alloc (Nat.le_refl _) _⟩
    case round =>
      obtain ⟨y, l, hy, rfl, rfl, hl, hb⟩ := hrel
      have hl6 : (str l).size ≤ 6 := by
        have h1 := congrArg List.length hl
        have h2 := enc_length x hh
        rw [List.length_append] at h1
        rw [str_size]; omega
      have hs1 : (strOfNums [128 + (y : Int) / 128 % 128]).size ≤ 1 := by rw [strOfNums_size]; simp
      have Hl := hide hl
      clear hl
      have hsz := hb.size
      by_cases hc : 128 ≤ y
      · go_wp2
        go_roundw
        case rel => 
          refine ⟨y / 128, [UInt8.ofNat (128 + y / 128 % 128)] ++ l, by omega, by go_num, ?_, ?_, hb.alloc hsz _⟩
          · rw [strOfNums_one _ (128 + y / 128 % 128) (by omega), str_append]
          · rw [← Hl.out, hi_pos (y / 128) (by omega), List.append_assoc]
        case measure => simp [intOf]; omega
      · go_wp2
        go_ret
        have : y / 128 = 0 := by omega
        refine ⟨?_, hb⟩
        rw [← Hl.out, this, hi_zero]; rfl

/-- The bytes of numbers. -/
def encs (l : List Int) : List UInt8 := l.flatMap fun n => enc (held n)
theorem encs_length (l : List Int) : (encs l).length ≤ 6 * l.length := by
  induction l with
  | nil => simp [encs]
  | cons n l ih =>
    have := enc_length (held n) (held_le n)
    simp only [encs, List.flatMap_cons, List.length_append, List.length_cons] at ih ⊢
    omega
theorem encs_snoc (l : List Int) (k : Nat) (n : Int) (h : l[k]? = some n) : encs (l.take (k + 1)) = encs (l.take k) ++ enc (held n) := by
  rw [take_snoc' l k n h]; simp [encs]
set_option maxHeartbeats 800000 in
set_option maxRecDepth 100000 in
theorem refText_any (s : ByteArray) (w : World) (hs : s.size ≤ 1000000) :
   Calls Try.prog 22 #[.string s] w fun e w' => e = .returned (.string (str (enc s.size ++ s.data.toList))) ∧ Below w.heap.size w w' := by
  have Hh : Hid (held (s.size : Int) = s.size) := hide (by have := held_of s.size (by omega) (by omega); omega)
  have hs2 : (str (enc (held (s.size : Int)))).size ≤ 6 := by rw [str_size]; exact enc_length _ (held_le _)
  go_enter Try.func22, Try.ntmps22
  go_wp2_with (first
    | (go_at_call 35
       refine (refNum_any _ _).mono ?_
       rintro e w1 ⟨rfl, hb1⟩))
  go_ret
  refine ⟨?_, hb1⟩
  rw [Hh.out, ← str_append, str_of]
  rfl
end Go.Proofs.Ytbckpcofcgapdaa.Vlq
