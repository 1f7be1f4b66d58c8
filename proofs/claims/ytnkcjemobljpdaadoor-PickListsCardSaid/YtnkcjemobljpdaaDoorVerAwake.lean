/-
  The contracts of ver's faces in one form each, and the statements' own examples: they hold. Condition: the tables hold what the texts lay in them.
-/
import Derived.Test.YtnkcjemobljpdaaDoorVerRead
namespace Go.Proofs.YtnkcjemobljpdaaDoor.Ver
open Go.RowKit Go.Lib Go.Proofs.YtnkcjemobljpdaaDoor.Label
set_option linter.unusedVariables false
def plV (x y z : Int) : Int := if Fits x y z then (placeN x y z : Nat) else 0
theorem place_any (x y z : Int) (w : World) (hT : Tabs w) :
    Calls Tryd.prog 50 #[.agg (three x y z)] w fun e w' => e = .returned (.tuple #[.int .i64 (plV x y z), .bool (decide (Fits x y z))]) ∧ Below w.heap.size w w' := by
  unfold plV
  by_cases h : Fits x y z
  · rw [if_pos h, decide_eq_true h]; exact place_yes x y z w h hT
  · rw [if_neg h, decide_eq_false h]; exact place_no x y z w h hT
def isFit (p : Int) : Bool := decide (0 ≤ p ∧ p < 1000000000)
def pzA (p : Int) : Int := if 0 ≤ p ∧ p < 1000000000 then (pA p.toNat : Nat) else 0
def pzB (p : Int) : Int := if 0 ≤ p ∧ p < 1000000000 then (pB p.toNat : Nat) else 0
def pzC (p : Int) : Int := if 0 ≤ p ∧ p < 1000000000 then (pC p.toNat : Nat) else 0
theorem parts_z (p : Int) (w : World) (hT : Tabs w) :
    Calls Tryd.prog 21 #[.int .i64 p] w fun e w' => e = .returned (.tuple #[.agg #[.int .i64 (pzA p), .int .i64 (pzB p), .int .i64 (pzC p)], .bool (isFit p)]) ∧ Below w.heap.size w w' := by
  unfold pzA pzB pzC isFit
  by_cases h : 0 ≤ p ∧ p < 1000000000
  · rw [if_pos h, if_pos h, if_pos h, decide_eq_true h]
    obtain ⟨n, rfl⟩ : ∃ n : Nat, p = (n : Int) := ⟨p.toNat, by omega⟩
    rw [Int.toNat_natCast]
    exact parts_yes n w (by omega) hT
  · rw [if_neg h, if_neg h, if_neg h, decide_eq_false h]; exact parts_no p w h
def txz (p : Int) : List UInt8 := if 0 ≤ p ∧ p < 1000000000 then txt p.toNat else []
theorem text_z (p : Int) (w : World) (hT : Tabs w) :
    Calls Tryd.prog 30 #[.int .i64 p] w fun e w' => e = .returned (.string (str (txz p))) ∧ Below w.heap.size w w' := by
  unfold txz
  by_cases h : 0 ≤ p ∧ p < 1000000000
  · rw [if_pos h]
    obtain ⟨n, rfl⟩ : ∃ n : Nat, p = (n : Int) := ⟨p.toNat, by omega⟩
    rw [Int.toNat_natCast]
    exact text_yes n w (by omega) hT
  · rw [if_neg h]; exact text_no p w h
def afz (p k : Int) : Int := if (0 ≤ p ∧ p < 1000000000) ∧ 0 ≤ k ∧ k < 3 then (afterN p.toNat k.toNat : Nat) else 0
theorem txt_123 : txt 1002003 = [49, 46, 50, 46, 51] := by
  unfold txt
  rw [show pA 1002003 = 1 from rfl, show pB 1002003 = 2 from rfl, show pC 1002003 = 3 from rfl, decDigits_one (by omega), decDigits_one (by omega), decDigits_one (by omega)]
  rfl
theorem read_0123 : readR ⟨#[48, 49, 46, 50, 46, 51]⟩ = none := by
  have hs : (⟨#[48, 49, 46, 50, 46, 51]⟩ : ByteArray) = str [48, 49, 46, 50, 46, 51] := rfl
  rw [hs]
  cases h : readR (str [48, 49, 46, 50, 46, 51]) with
  | none => rfl
  | some p =>
    have e := str_inj.1 (read_some h).1
    have g := go_txt p
    rw [← e] at g
    have g2 : go (some ⟨0, 0, 0, 0⟩) (([48, 49, 46, 50, 46, 51] : List UInt8).map UInt8.toNat) = some ⟨2, 1, 2, 3⟩ := by kernel_rfl
    rw [g2] at g
    injection g with g
    injection g with g1 g2 g3 g4
    have ha : pA p = 1 := by omega
    have hb : pB p = 2 := by omega
    have hc : pC p = 3 := by omega
    unfold txt at e
    rw [ha, hb, hc, decDigits_one (by omega), decDigits_one (by omega), decDigits_one (by omega)] at e
    exact absurd e (by decide)
theorem x_place (w : World) (hT : Tabs w) : Calls Tryd.prog 50 #[.agg #[.int .i64 1, .int .i64 2, .int .i64 3]] w fun e w' => e = .returned (.tuple #[.int .i64 1002003, .bool true]) ∧ Below w.heap.size w w' :=
  place_yes 1 2 3 w (by decide) hT
theorem x_read (w : World) (hT : Tabs w) : Calls Tryd.prog 39 #[.string ⟨#[48, 49, 46, 50, 46, 51]⟩] w fun e w' => e = .returned (.tuple #[.int .i64 0, .bool false]) ∧ Below w.heap.size w w' := by
  have h := read_any ⟨#[48, 49, 46, 50, 46, 51]⟩ w (by decide) hT
  rw [read_0123] at h
  exact h
theorem x_text (w : World) (hT : Tabs w) : Calls Tryd.prog 30 #[.int .i64 1002003] w fun e w' => e = .returned (.string ⟨#[49, 46, 50, 46, 51]⟩) ∧ Below w.heap.size w w' := by
  have h := text_yes 1002003 w (by decide) hT
  rw [txt_123] at h
  exact h
end Go.Proofs.YtnkcjemobljpdaaDoor.Ver
