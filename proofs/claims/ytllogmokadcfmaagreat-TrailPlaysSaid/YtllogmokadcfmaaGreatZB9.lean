/-
  Some texts of this claim, one behind the other: VlqMath, VlqMath2. What each proves, and its condition, stands at its head.
-/
/-
  The bytes of a number, as plain mathematics. No condition.
-/
namespace Go.Proofs.YtllogmokadcfmaaGreat.Vlq
set_option linter.unusedVariables false
def hi (n : Nat) : List UInt8 := if h : n = 0 then [] else hi (n / 128) ++ [UInt8.ofNat (128 + n % 128)]
  termination_by n
  decreasing_by omega
def enc (n : Nat) : List UInt8 := hi (n / 128) ++ [UInt8.ofNat (n % 128)]
def held (n : Int) : Nat := (min (max n 0) 1099511627776).toNat
end Go.Proofs.YtllogmokadcfmaaGreat.Vlq
/-
  The number that bytes begin with, as plain mathematics. No condition.
-/
namespace Go.Proofs.YtllogmokadcfmaaGreat.Vlq
set_option linter.unusedVariables false
def wd : List UInt8 → Nat → Nat × Int
  | [], _ => (0, 2)
  | c :: r, i => if c.toNat < 128 then (i + 1, 0) else if i + 1 = 6 then (0, 4) else wd r (i + 1)
def width (l : List UInt8) : Nat × Int :=
  match l with
  | [] => (0, 2)
  | c :: r => if c.toNat = 128 then (0, 3) else wd (c :: r) 0
def val (l : List UInt8) : Nat := l.foldl (fun n c => n * 128 + c.toNat % 128) 0
def look (l : List UInt8) (most : Int) : Nat × Nat × Int :=
  if (width l).2 ≠ 0 then (0, 0, (width l).2)
  else if 1099511627776 < val (l.take (width l).1) ∨ most < (val (l.take (width l).1) : Int) then (0, 0, 4)
  else (val (l.take (width l).1), (width l).1, 0)
end Go.Proofs.YtllogmokadcfmaaGreat.Vlq
