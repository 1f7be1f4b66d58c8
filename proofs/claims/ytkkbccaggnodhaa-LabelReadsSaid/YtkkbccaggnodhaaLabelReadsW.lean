/-
  The walk of the law LabelReads: it returns true, and leaves all memory that was there as it was. No condition.
-/
import Derived.Test.YtkkbccaggnodhaaLabelAwake
import Derived.Test.YtkkbccaggnodhaaLabelFitR
import Derived.Test.YtkkbccaggnodhaaLabelMarksR
import Derived.Test.YtkkbccaggnodhaaLabelClipR
import Derived.ChangeKeysEq
namespace Go.Proofs.Ytkkbccaggnodhaa.Label
open Go.RowKit Go.Lib Go.Proofs.Ytkkbccaggnodhaa.Grow
set_option linter.unusedVariables false
theorem reads_skip (s : ByteArray) (n : Int) (w : World) (h : 3000 < s.size) (hm : (s.size : Int) ≤ 9223372036854775807) :
    Calls Try.prog 3 #[.string s, .int .i64 n] w fun e w' => e = .returned (.bool true) ∧ Below w.heap.size w w' := by
  go_enter Try.func3, Try.ntmps3
  go_wp2_with (first
    | (go_at_call 4
       refine (awake_any _).mono ?_
       rintro e w3 ⟨rfl, hb3⟩))
  go_ret
  exact ⟨rfl, hb3⟩
theorem eq_four (x0 x1 x2 x3 : Int) (w : World) : (Op.equalIn 10000 27 (.agg #[.int .i64 x0, .int .i64 x1, .int .i64 x2, .int .i64 x3]) (.agg #[.int .i64 x0, .int .i64 x1, .int .i64 x2, .int .i64 x3])).run Try.prog w = .ok true w := by
  obtain ⟨i0, hi0, hz0, hz1, hz2⟩ := info_parts info_int
  have hc : Try.prog.cellsOf 3 = 1 := by kernel_rfl
  have ha : ∀ w, (isAgg 3).run Try.prog w = .ok false w := Try.isAgg3
  rw [run_equalIn_array w 9999 _ _ Try.underlying27 hi0, hc, show List.range 4 = [0, 1, 2, 3] from rfl]
  simp [Op.eqItems, part, ha, run_equalIn_int _ 9998 3 .i64 .i64 _ _ Try.underlying3]
theorem eq_marks (l : List Nat) (w : World) : (Op.equalIn 10000 27 (.agg (four l)) (.agg (four l))).run Try.prog w = .ok true w := eq_four _ _ _ _ w
def isL (n : Nat) : Rel := fun w v => ∃ A c, v = .slice A n c
theorem isL_stable (n : Nat) : ∀ w w' v, Below w.heap.size w w' → isL n w v → isL n w' v := fun _ _ _ _ h => h
set_option maxHeartbeats 1600000 in
set_option maxRecDepth 100000 in
theorem reads_any (s : ByteArray) (n : Int) (w : World) (h : s.size ≤ 3000) (hn1 : -9223372036854775808 ≤ n) (hn2 : n ≤ 9223372036854775807) :
    Calls Try.prog 3 #[.string s, .int .i64 n] w fun e w' => e = .returned (.bool true) ∧ Below w.heap.size w w' := by
  have H1 := hide (fun wx => fit_any s wx (by omega))
  have H2 := hide (fun wx => refFit_any s wx (by omega))
  have H3 := hide (fun wx => size_any s wx (by omega))
  have H4 := hide (fun wx => refRunes_any s wx (by omega))
  have H5 := hide (fun wx => marks_any s wx (by omega))
  have H6 := hide (fun wx => refMarks_any s wx (by omega))
  have H7 := hide (fun wx => clip_any s n wx (by omega) hn1 hn2)
  have H8 := hide (fun wx => refClip_any s n wx (by omega) hn1 hn2)
  have heq := eq_marks (runes s 0)
  have hlen := runes_len s 0 (by omega)
  generalize clipS s n = C at *
  generalize runes s 0 = l at *
  have hm : ∀ k, marks l k ≤ l.length := fun k => marks_le l k
  have hm0 := hm 0
  have hm1 := hm 1
  have hm2 := hm 2
  have hm3 := hm 3
  clear hm
  go_enter Try.func3, Try.ntmps3
  go_upto_region 3 with fail
  go_wp2_with (first
    | (go_at_call 5
       refine (H1.out w).mono ?_
       rintro e w1 ⟨rfl, hb1⟩)
    | (go_at_call 6
       refine (H2.out w1).mono ?_
       rintro e w2 ⟨rfl, hb2⟩
       have c2 : Below w.heap.size w w2 := hb1.trans (hb2.mono hb1.size))
    | (go_at_call 7
       refine (H3.out w2).mono ?_
       rintro e w3 ⟨rfl, hb3⟩
       have c3 : Below w.heap.size w w3 := c2.trans (hb3.mono c2.size))
    | (go_at_call 8
       refine (H4.out w3).mono ?_
       rintro e w4 ⟨v4, rfl, ⟨A4, k4, rfl, _⟩, hb4, _⟩
       have c4 : Below w.heap.size w w4 := c3.trans (hb4.mono c3.size))
    | (go_at_call 9
       refine (H5.out w4).mono ?_
       rintro e w5 ⟨rfl, hb5⟩
       have c5 : Below w.heap.size w w5 := c4.trans (hb5.mono c4.size))
    | (go_at_call 10
       refine (H6.out w5).mono ?_
       rintro e w6 ⟨rfl, hb6⟩
       have c6 : Below w.heap.size w w6 := c5.trans (hb6.mono c5.size))
    | (go_at_call 11
       refine (H7.out w6).mono ?_
       rintro e w7 ⟨rfl, hb7⟩
       have c7 : Below w.heap.size w w7 := c6.trans (hb7.mono c6.size))
    | (go_at_call 12
       refine (H8.out w7).mono ?_
       rintro e w8 ⟨rfl, hb8⟩
       have c8 : Below w.heap.size w w8 := c7.trans (hb8.mono c7.size))
    | (go_at_call 4
       refine (awake_any w8).mono ?_
       rintro e w9 ⟨rfl, hb9⟩
       have c9 : Below w.heap.size w w9 := c8.trans (hb9.mono c8.size)))
  go_ret
  exact ⟨rfl, c9⟩
end Go.Proofs.Ytkkbccaggnodhaa.Label
