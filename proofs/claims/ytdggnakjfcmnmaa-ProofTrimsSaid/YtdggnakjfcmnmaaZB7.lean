/-
  Some texts of this claim, one behind the other: VerMath. What each proves, and its condition, stands at its head.
-/
import Derived.Test.YtdggnakjfcmnmaaZB1
import Derived.Test.YtdggnakjfcmnmaaZB5
import Derived.Lib.ItoaNum
/-
  Plain mathematics of versions: places and parts, decimal texts, and how a text is gone through. No program.
-/
namespace Go.Proofs.Ytdggnakjfcmnmaa.Ver
open Go.RowKit Go.Lib Go.Proofs.Ytdggnakjfcmnmaa.Label
set_option linter.unusedVariables false
def pA (p : Nat) : Nat := p / 1000000 % 1000
def pB (p : Nat) : Nat := p / 1000 % 1000
def pC (p : Nat) : Nat := p % 1000
def three (x y z : Int) : Array Value := #[.int .i64 x, .int .i64 y, .int .i64 z]
def partsOf (p : Nat) : Array Value := three (pA p : Nat) (pB p : Nat) (pC p : Nat)
def Fits (x y z : Int) : Prop := (0 ≤ x ∧ x ≤ 999) ∧ (0 ≤ y ∧ y ≤ 999) ∧ (0 ≤ z ∧ z ≤ 999)
instance (x y z : Int) : Decidable (Fits x y z) := by unfold Fits; infer_instance
def placeN (x y z : Int) : Nat := (x * 1000000 + y * 1000 + z).toNat
def txt (p : Nat) : List UInt8 := decDigits (pA p) ++ (46 :: (decDigits (pB p) ++ (46 :: decDigits (pC p))))
structure St where
  at_ : Nat
  x : Int
  y : Int
  z : Int
def digit (a : Int) (r : Nat) : Int := wrap64 (wrap64 (a * 10) + ((r : Int) - 48))
def step (s : St) (r : Nat) : Option St :=
  if r = 46 then (if s.at_ = 2 then none else some ⟨s.at_ + 1, s.x, s.y, s.z⟩)
  else if s.at_ = 0 then some ⟨0, digit s.x r, s.y, s.z⟩ else if s.at_ = 1 then some ⟨1, s.x, digit s.y r, s.z⟩ else some ⟨2, s.x, s.y, digit s.z r⟩
def go : Option St → List Nat → Option St
  | none, _ => none
  | some s, [] => some s
  | some s, r :: l => go (step s r) l
def say : Int → List Nat → Int
  | a, [] => a
  | a, d :: l => say (a * 10 + (d : Int)) l
def readR (s : ByteArray) : Option Nat :=
  match go (some ⟨0, 0, 0, 0⟩) (runes s 0) with
  | none => none
  | some t => if Fits t.x t.y t.z ∧ str (txt (placeN t.x t.y t.z)) = s then some (placeN t.x t.y t.z) else none
def rstep (q : Int × Int) (b : UInt8) : Int × Int :=
  if b.toNat = 46 then (wrap64 (wrap64 (q.1 + q.2) * 1000), 0) else (q.1, wrap64 (wrap64 (q.2 * 10) + ((b.toNat % 48 % 10 : Nat) : Int)))
def rgo (q : Int × Int) (l : List UInt8) : Int × Int := l.foldl rstep q
def rreadR (s : ByteArray) : Option Nat :=
  let q := rgo (0, 0) s.data.toList
  let v := wrap64 (q.1 + q.2)
  if s.size ≤ 11 ∧ (0 ≤ v ∧ v < 1000000000) ∧ str (txt v.toNat) = s then some v.toNat else none
def optV : Option Nat → Int
  | some p => (p : Int)
  | none => 0
def unitN (k : Nat) : Nat := if k = 0 then 1000000 else if k = 1 then 1000 else 1
def afterN (p k : Nat) : Nat := (p / unitN k + 1) * unitN k
end Go.Proofs.Ytdggnakjfcmnmaa.Ver
