/-
  Some texts of this claim, one behind the other: ReachAwakeM. What each proves, and its condition, stands at its head.
-/
import Derived.Test.YtjbjdoioallpkaaDoorZ32
import Derived.Test.YtjbjdoioallpkaaDoorZ36
/-
  The chapter's example, as plain data: a needs b, which is not known. No condition.
-/
namespace Go.Proofs.YtjbjdoioallpkaaDoor.Reach
open Go Go.RowKit Go.Lib Go.Sort Go.Proofs.YtjbjdoioallpkaaDoor.Span Go.Proofs.YtjbjdoioallpkaaDoor.Need Go.Proofs.YtjbjdoioallpkaaDoor.Mani Go.Proofs.YtjbjdoioallpkaaDoor.Wire Go.Proofs.YtjbjdoioallpkaaDoor.Depot Go.Proofs.YtjbjdoioallpkaaDoor.Index
open Go.Proofs.YtjbjdoioallpkaaDoor.Vlq (enc hi_zero held)
open Go.Proofs.YtjbjdoioallpkaaDoor.Label (runes fitL runes_step runes_end rn wd)
set_option linter.unusedVariables false
def exB : List UInt8 := [1, 97, 1, 0, 1, 1, 98, 0]
def exR : List Rl := [(0, [(str [98], [])])]
def exX : List Kn := [(str [97], (exR, true))]
def exN : List Nd := [(str [97], [(0, 1000000000)])]
theorem fit_two : fitL (runes (str [98]) 0) = true := by
  rw [runes_step _ _ (by decide), runes_end _ _ (by decide)]
  decide
theorem nlt_str (l m : List UInt8) : nlt (str l) (str m) = Op.bytesLess l m := by unfold nlt; rw [str_toList, str_toList]
theorem ok_ex : okM (str [97]) exR = true := by
  have h1 : nlt ByteArray.empty (str [98]) = true := by
    rw [show ByteArray.empty = str [] from rfl, nlt_str]
    decide
  have h2 : okS [(str [98], ([] : List S))] = true := by
    unfold okS
    rw [show okFrom ByteArray.empty [(str [98], ([] : List S))] = ((fitL (runes (str [98]) 0) && nlt ByteArray.empty (str [98]) && (isSet (-1) ([] : List S) && decide (([] : List S).length ≤ 6))) && true) from rfl, fit_two, h1]
    decide
  unfold okM exR
  rw [fit_one, show okR (-1) [(0, [(str [98], ([] : List S))])] = ((decide ((-1 : Int) < 0) && (decide ((0 : Int) < 1000000000) && okS [(str [98], ([] : List S))])) && true) from rfl, h2]
  decide
theorem put_ex : putB (str [97]) exR = exB := by
  unfold putB
  rw [if_pos ok_ex]
  have e0 : held 0 = 0 := by decide
  have e00 : held 1 = 1 := by decide
  have e1 : encN 0 = [0] := by unfold encN; rw [e0]; unfold enc; rw [show 0 / 128 = 0 from rfl, hi_zero]; rfl
  have e11 : encN 1 = [1] := by unfold encN; rw [e00]; unfold enc; rw [show 1 / 128 = 0 from rfl, hi_zero]; rfl
  have e2 : enc 1 = [1] := by unfold enc; rw [show 1 / 128 = 0 from rfl, hi_zero]; rfl
  have e3 : textB (str [97]) = [1, 97] := by
    unfold textB
    rw [show (str [97]).size = 1 from rfl, e2]
    rfl
  have e4 : textB (str [98]) = [1, 98] := by
    unfold textB
    rw [show (str [98]).size = 1 from rfl, e2]
    rfl
  simp only [manB, exR, listB, flat_one, flat_nil, relB, needB, e3, e4, List.length_singleton, List.length_nil, show ((1 : Nat) : Int) = 1 from rfl, show ((0 : Nat) : Int) = 0 from rfl, e1, e11]
  rfl
theorem good_ex : goodE (str [97]) exB = true ∧ relE (str [97]) exB = exR := by rw [← put_ex]; exact good_put ok_ex
theorem err_ex : errX [] (str [97]) exB = 0 := by
  rw [errX_zero]
  refine ⟨?_, rfl⟩
  unfold mayX
  rw [fit_one]
  decide
theorem puts_ex : putX [] (str [97]) exB = exX := by
  unfold putX
  rw [if_pos err_ex]
  unfold valX
  rw [good_ex.1, good_ex.2]
  rfl
theorem ne_ab : str [97] ≠ str [98] := by decide
theorem at_a : atX exX (str [97]) = some (exR, true) := by unfold exX; rw [atX, if_pos rfl]
theorem at_b : atX exX (str [98]) = none := by unfold exX; rw [atX, if_neg ne_ab]; rfl
theorem fine_ex : FineX exX := by
  intro q hq
  rw [List.mem_singleton.1 hq]
  refine ⟨by decide, fun p hp => ?_⟩
  rw [List.mem_singleton.1 hp]
  refine ⟨by decide, fun y hy => ?_⟩
  rw [List.mem_singleton.1 hy]
  exact ⟨by decide, by decide⟩
theorem asks_a : asksX exX (str [97]) = [str [98]] := by
  unfold asksX getX
  rw [at_a]
  rfl
theorem asks_b : asksX exX (str [98]) = [] := by
  unfold asksX getX
  rw [at_b]
  rfl
theorem reach_ex : reachX exX exN = [str [97], str [98]] := by
  refine (reachX_of ⟨?_, fun z => ⟨fun hz => ?_, fun hz => ?_⟩⟩).symm
  · refine List.pairwise_cons.2 ⟨fun z hz => ?_, List.pairwise_singleton _ _⟩
    rw [List.mem_singleton.1 hz, nlt_str]
    decide
  · have ha : May exX exN (str [97]) := .root (by simp [namesS, exN])
    rcases List.mem_cons.1 hz with rfl | hz
    · exact ha
    · rw [List.mem_singleton.1 hz]
      exact .ask ha (by rw [asks_a]; simp)
  · induction hz with
    | root hr =>
      simp [namesS, exN] at hr
      simp [hr]
    | @ask a b _ hk ih =>
      rcases List.mem_cons.1 ih with e | e
      · rw [e, asks_a] at hk
        rw [List.mem_singleton.1 hk]
        simp
      · rw [List.mem_singleton.1 e, asks_b] at hk
        cases hk
theorem miss_ex : missX exX exN = [str [98]] := by
  unfold missX
  rw [reach_ex]
  simp [List.filter, at_a, at_b]
end Go.Proofs.YtjbjdoioallpkaaDoor.Reach
