/-
  The contract of awake: it returns true. No condition.
-/
import Derived.Test.YtbckpcofcgapdaaSealOpen
namespace Go.Proofs.Ytbckpcofcgapdaa.Seal
open Go Go.RowKit Go.Lib Go.Proofs.Ytbckpcofcgapdaa.Wire
open Go.Proofs.Ytbckpcofcgapdaa.Label (runes fitL runes_step runes_end)
open Go.Proofs.Ytbckpcofcgapdaa.Stamp (seal_ sum four)
open Go.Proofs.Ytbckpcofcgapdaa.Vlq (enc hi_zero)
set_option linter.unusedVariables false
theorem fit_one : fitL (runes (str [97]) 0) = true := by
  rw [runes_step _ _ (by decide), runes_end _ _ (by decide)]
  decide
theorem body_one : bodyB (str [97]) [] = [1, 97, 0] := by
  have e2 : enc 1 = [1] := by unfold enc; rw [show 1 / 128 = 0 from rfl, hi_zero]; rfl
  have e0 : enc 0 = [0] := by unfold enc; rw [show 0 / 128 = 0 from rfl, hi_zero]; rfl
  unfold bodyB textB
  rw [show (str [97]).size = 1 from rfl, show (str []).size = 0 from rfl, e2, e0]
  rfl
theorem pack_one : ∃ q, packB (str [97]) [] = [1, 97, 0] ++ q ∧ q.length = 4 := by
  rw [packB_yes fit_one (by simp), body_one]
  exact ⟨_, rfl, rfl⟩
theorem err_none : errO [] = 8 := errO_no (fun h => by have := h.1; simp at this)
theorem open_nil : openB [] = (ByteArray.empty, []) := openB_err (by rw [err_none]; decide)
set_option maxHeartbeats 1600000 in
set_option maxRecDepth 100000 in
theorem awakeS_any (w : World) : Calls Try.prog 5 #[] w fun e w' => e = .returned (.bool true) ∧ Below w.heap.size w w' := by
  obtain ⟨q, hq, hq4⟩ := pack_one
  have HP := hide (pack_any (str [97]) none 0 0 [] w (by decide) Reads.none_)
  rw [hq] at HP
  have HO := hide (fun (wx : World) => open_any none 0 0 [] wx (by omega) (by omega) Reads.none_)
  unfold Opened at HO
  rw [err_none, open_nil] at HO
  unfold MakesB at HP
  clear hq
  go_enter Try.func5, Try.ntmps5
  go_wp2_with (first
    | (go_at_call 8
       refine HP.out.mono ?_
       rintro e w1 ⟨A1, n1, c1, rfl, hn1, hb1⟩
       have h7 : n1 = 7 := by rw [hn1.1, List.length_append, hq4]; rfl
       subst h7
       have hc7 := hn1.2.1
       have hc3 : 3 ≤ c1 := by omega)
    | (go_at_call 6
       refine (HO.out _).mono ?_
       rintro e w2 ⟨A2, n2, c2, rfl, hn2, hb2⟩
       have hw2 := hb1.trans (hb2.mono hb1.size)
       have hrt := ((hn1.2.2.2.below hb2).take (k := 3) (by omega))
       rw [bcs_take, show ([1, 97, 0] ++ q : List UInt8).take 3 = [1, 97, 0] from rfl] at hrt
       have hcv := conv_of (c := c1) hrt
       have hst : ((str [1, 97, 0]).toList == [1, 97, 0]) = true := by rw [str_toList]; rfl))
  go_ret
  exact ⟨rfl, hw2⟩
end Go.Proofs.Ytbckpcofcgapdaa.Seal
