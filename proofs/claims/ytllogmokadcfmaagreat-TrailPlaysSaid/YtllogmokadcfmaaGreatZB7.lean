/-
  Some texts of this claim, one behind the other: VerMath, RuleMath, RuleShowM. What each proves, and its condition, stands at its head.
-/
import Derived.Test.YtllogmokadcfmaaGreatZB1
import Derived.Test.YtllogmokadcfmaaGreatZB5
import Derived.Lib.ItoaNum
/-
  Plain mathematics of versions: places and parts, decimal texts, and how a text is gone through. No program.
-/
namespace Go.Proofs.YtllogmokadcfmaaGreat.Ver
open Go.RowKit Go.Lib Go.Proofs.YtllogmokadcfmaaGreat.Label
set_option linter.unusedVariables false
def pA (p : Nat) : Nat := p / 1000000 % 1000
def pB (p : Nat) : Nat := p / 1000 % 1000
def pC (p : Nat) : Nat := p % 1000
def Fits (x y z : Int) : Prop := (0 ≤ x ∧ x ≤ 999) ∧ (0 ≤ y ∧ y ≤ 999) ∧ (0 ≤ z ∧ z ≤ 999)
instance (x y z : Int) : Decidable (Fits x y z) := by unfold Fits; infer_instance
def placeN (x y z : Int) : Nat := (x * 1000000 + y * 1000 + z).toNat
def txt (p : Nat) : List UInt8 := decDigits (pA p) ++ (46 :: (decDigits (pB p) ++ (46 :: decDigits (pC p))))
structure St where
  at_ : Nat
  x : Int
  y : Int
  z : Int
def digit (a : Int) (r : Nat) : Int := wrap64 (wrap64 (a * 10) + ((r : Int) - 48))
def step (s : St) (r : Nat) : Option St :=
  if r = 46 then (if s.at_ = 2 then none else some ⟨s.at_ + 1, s.x, s.y, s.z⟩)
  else if s.at_ = 0 then some ⟨0, digit s.x r, s.y, s.z⟩ else if s.at_ = 1 then some ⟨1, s.x, digit s.y r, s.z⟩ else some ⟨2, s.x, s.y, digit s.z r⟩
def go : Option St → List Nat → Option St
  | none, _ => none
  | some s, [] => some s
  | some s, r :: l => go (step s r) l
def readR (s : ByteArray) : Option Nat :=
  match go (some ⟨0, 0, 0, 0⟩) (runes s 0) with
  | none => none
  | some t => if Fits t.x t.y t.z ∧ str (txt (placeN t.x t.y t.z)) = s then some (placeN t.x t.y t.z) else none
def unitN (k : Nat) : Nat := if k = 0 then 1000000 else if k = 1 then 1000 else 1
def afterN (p k : Nat) : Nat := (p / unitN k + 1) * unitN k
end Go.Proofs.YtllogmokadcfmaaGreat.Ver
/-
  Plain mathematics of rules: words and pieces of a text, what a comparison has as an interval, what a text is read as. No program.
-/
namespace Go.Proofs.YtllogmokadcfmaaGreat.Rule
open Go.RowKit Go.Lib Go.Proofs.YtllogmokadcfmaaGreat.Span
open Go.Proofs.YtllogmokadcfmaaGreat.Ver (txt readR afterN)
set_option linter.unusedVariables false
def sg (b : UInt8) : Bool := b == 61 || b == 62 || b == 60 || b == 94 || b == 126
def ivOf (g : List UInt8) (p : Nat) : Option S :=
  if g = [61] then some ((p : Int), (p : Int) + 1)
  else if g = [62, 61] then some ((p : Int), 1000000000)
  else if g = [62] then some ((p : Int) + 1, 1000000000)
  else if g = [60, 61] then some (0, (p : Int) + 1)
  else if g = [60] then some (0, (p : Int))
  else if g = [94] then some ((p : Int), (afterN p (if p < 1000000 then 1 else 0) : Nat))
  else if g = [126] then some ((p : Int), (afterN p 1 : Nat))
  else none
def cmpI (w : List UInt8) : Option S :=
  match readR (str (w.dropWhile sg)) with
  | none => none
  | some p => ivOf (w.takeWhile sg) p
abbrev W := List UInt8 × Nat
abbrev Pc := List W × Nat
def push (cur : List UInt8) (ws : List W) (b : Nat) : List W := if cur = [] then ws else ws ++ [(cur, b)]
def go : List UInt8 → Nat → List UInt8 → List W → List Pc
  | [], b, cur, ws => [(push cur ws b, b + cur.length)]
  | c :: l, b, cur, ws =>
    if c = 124 then (push cur ws b, b + cur.length) :: go l (b + cur.length + 1) [] []
    else if c = 32 then go l (b + cur.length + 1) [] (push cur ws b)
    else go l b (cur ++ [c]) ws
def inter (a b : S) : S := (Max.max a.1 b.1, Min.min a.2 b.2)
def anyL : List UInt8 := [97, 110, 121]
def noneL : List UInt8 := [110, 111, 110, 101]
def mean (alone : Bool) (w : List UInt8) : Option S :=
  if alone = true ∧ w = anyL then some (0, 1000000000) else if alone = true ∧ w = noneL then some (0, 0) else cmpI w
def meetI (alone : Bool) : S → List W → Except Nat S
  | a, [] => .ok a
  | a, (w, p) :: r => match mean alone w with
    | none => .error p
    | some i => meetI alone (inter a i) r
def pieceI (q : Pc) : Except Nat S := if q.1 = [] then .error q.2 else meetI (decide (q.1.length = 1)) (0, 1000000000) q.1
def readI : List S → List Pc → Except Nat (List S)
  | acc, [] => .ok acc
  | acc, q :: r => match pieceI q with
    | .error e => .error e
    | .ok i => readI (acc ++ [i]) r
def cutL (s : List UInt8) : List Pc := go s 0 [] []
noncomputable def setOf (l : List S) : List S := nf (has l)
inductive Told where
  | ok : List S → Told
  | form : Nat → Told
  | long : Told
noncomputable def told (s : List UInt8) : Told :=
  if 400 < s.length then .long else match readI [] (cutL s) with
    | .error e => .form e
    | .ok l => if 6 < (setOf l).length then .long else .ok (setOf l)
/-! What words have does not hang on their places. -/
def meetT (alone : Bool) : S → List (List UInt8) → Option S
  | a, [] => some a
  | a, w :: r => match mean alone w with
    | none => none
    | some i => meetT alone (inter a i) r
/-! Sets. -/
end Go.Proofs.YtllogmokadcfmaaGreat.Rule
/-
  Plain mathematics: how a set is written, and that it is read as that set; two rules with a mark, or a blank, between. No program.
-/
namespace Go.Proofs.YtllogmokadcfmaaGreat.Rule
open Go.RowKit Go.Lib Go.Proofs.YtllogmokadcfmaaGreat.Span
open Go.Proofs.YtllogmokadcfmaaGreat.Ver (txt readR afterN)
set_option linter.unusedVariables false
def tz (p : Int) : List UInt8 := if 0 ≤ p ∧ p < 1000000000 then txt p.toNat else []
/-! Two rules. -/
end Go.Proofs.YtllogmokadcfmaaGreat.Rule
