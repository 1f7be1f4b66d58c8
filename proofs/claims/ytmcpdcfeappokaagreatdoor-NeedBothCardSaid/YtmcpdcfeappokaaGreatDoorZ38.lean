/-
  Some texts of this claim, one behind the other: RuleAwake. What each proves, and its condition, stands at its head.
-/
import Derived.Test.YtmcpdcfeappokaaGreatDoorZ31
import Derived.Test.YtmcpdcfeappokaaGreatDoorZ36
/-
  The chapter's examples (awake): they hold. Condition: the tables hold what the texts lay in them.
-/
namespace Go.Proofs.YtmcpdcfeappokaaGreatDoor.Rule
open Go.RowKit Go.Lib Go.Proofs.YtmcpdcfeappokaaGreatDoor.Span
open Go.Proofs.YtmcpdcfeappokaaGreatDoor.Ver (Tabs txt pA pB pC afterN)
set_option linter.unusedVariables false
def ex1 : List UInt8 := [94, 49, 46, 50, 46, 48, 32, 60, 49, 46, 53, 46, 48, 32, 124, 32, 61, 51, 46, 48, 46, 48]
def ex2 : List UInt8 := [61, 49, 46, 48, 46, 48, 32, 124]
def ex3 : List UInt8 := [62, 61, 49, 46, 50, 46, 48, 32, 60, 49, 46, 53, 46, 48, 32, 124, 32, 61, 51, 46, 48, 46, 48]
def exS : List S := [(1002000, 1005000), (3000000, 3000001)]
theorem txt_small {p a b c : Nat} (ha : pA p = a) (hb : pB p = b) (hc : pC p = c) (h1 : a < 10) (h2 : b < 10) (h3 : c < 10) : txt p = [UInt8.ofNat (48 + a), 46, UInt8.ofNat (48 + b), 46, UInt8.ofNat (48 + c)] := by
  unfold txt
  rw [ha, hb, hc, decDigits_one h1, decDigits_one h2, decDigits_one h3]
  rfl
theorem t120 : txt 1002000 = [49, 46, 50, 46, 48] := txt_small (a := 1) (b := 2) (c := 0) rfl rfl rfl (by omega) (by omega) (by omega)
theorem t150 : txt 1005000 = [49, 46, 53, 46, 48] := txt_small (a := 1) (b := 5) (c := 0) rfl rfl rfl (by omega) (by omega) (by omega)
theorem t300 : txt 3000000 = [51, 46, 48, 46, 48] := txt_small (a := 3) (b := 0) (c := 0) rfl rfl rfl (by omega) (by omega) (by omega)
theorem t100 : txt 1000000 = [49, 46, 48, 46, 48] := txt_small (a := 1) (b := 0) (c := 0) rfl rfl rfl (by omega) (by omega) (by omega)
theorem c120 : cmpI [94, 49, 46, 50, 46, 48] = some (1002000, 2000000) := by
  have := (cmp_of (g := [94]) (by simp) (p := 1002000) (by omega)).1
  rw [t120] at this
  rw [show ([94, 49, 46, 50, 46, 48] : List UInt8) = [94] ++ [49, 46, 50, 46, 48] from rfl, this]
  simp [ivOf, afterN, Ver.unitN]
theorem c150 : cmpI [60, 49, 46, 53, 46, 48] = some (0, 1005000) := by
  have := (cmp_of (g := [60]) (by simp) (p := 1005000) (by omega)).1
  rw [t150] at this
  rw [show ([60, 49, 46, 53, 46, 48] : List UInt8) = [60] ++ [49, 46, 53, 46, 48] from rfl, this]
  simp [ivOf]
theorem c300 : cmpI [61, 51, 46, 48, 46, 48] = some (3000000, 3000001) := by
  have := (cmp_of (g := [61]) (by simp) (p := 3000000) (by omega)).1
  rw [t300] at this
  rw [show ([61, 51, 46, 48, 46, 48] : List UInt8) = [61] ++ [51, 46, 48, 46, 48] from rfl, this]
  simp [ivOf]
theorem c100 : cmpI [61, 49, 46, 48, 46, 48] = some (1000000, 1000001) := by
  have := (cmp_of (g := [61]) (by simp) (p := 1000000) (by omega)).1
  rw [t100] at this
  rw [show ([61, 49, 46, 48, 46, 48] : List UInt8) = [61] ++ [49, 46, 48, 46, 48] from rfl, this]
  simp [ivOf]
theorem told1 : told ex1 = .ok exS := by
  have hw : (cutL ex1).map (fun q => q.1.map Prod.fst) = [[[94, 49, 46, 50, 46, 48], [60, 49, 46, 53, 46, 48]], [[61, 51, 46, 48, 46, 48]]] := by decide
  have h : readT [] ((cutL ex1).map fun q => q.1.map Prod.fst) = some exS := by
    rw [hw]
    simp only [readT, pieceT, meetT]
    rw [mean_cmp _ (by decide) (by decide), c120]
    simp only
    rw [mean_cmp _ (by decide) (by decide), c150]
    simp only
    rw [mean_cmp _ (by decide) (by decide), c300]
    decide
  rw [told_of (by decide) h, setOf_self (by decide), if_neg (by decide)]
theorem told2 : told ex2 = .form 8 := by
  have hw : cutL ex2 = [([([61, 49, 46, 48, 46, 48], 0)], 7), ([], 8)] := by decide
  have h : readI [] (cutL ex2) = .error 8 := by
    rw [hw]
    simp only [readI, pieceI, meetI]
    rw [mean_cmp _ (by decide) (by decide), c100]
    rfl
  unfold told
  rw [if_neg (by decide), h]
theorem show1 : showL exS = ex3 := by
  have h1 : isSet (-1) exS = true := by decide
  have e1 : tz 1002000 = [49, 46, 50, 46, 48] := (tz_in (by omega) (by omega)).trans t120
  have e2 : tz 1005000 = [49, 46, 53, 46, 48] := (tz_in (by omega) (by omega)).trans t150
  have e3 : tz 3000000 = [51, 46, 48, 46, 48] := (tz_in (by omega) (by omega)).trans t300
  unfold showL
  rw [if_neg (by rw [h1]; simp), if_neg (by decide), if_neg (by decide)]
  simp only [exS, joinL, partL]
  rw [if_neg (by decide), if_neg (by decide), if_neg (by decide), if_pos (by decide), e1, e2, e3]
  rfl
end Go.Proofs.YtmcpdcfeappokaaGreatDoor.Rule
