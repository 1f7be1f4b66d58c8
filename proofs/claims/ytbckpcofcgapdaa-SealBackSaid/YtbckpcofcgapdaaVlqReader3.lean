/-
  The contracts of the program's Num and Str, over a reader and over none. No condition beyond the reader's own.
-/
import Derived.Test.YtbckpcofcgapdaaVlqReader2
namespace Go.Proofs.Ytbckpcofcgapdaa.Vlq
open Go.RowKit
set_option linter.unusedVariables false
theorem number_q (A : Option Addr) (n c : Nat) (l : List UInt8) (most : Int) (w : World) (B : Nat) (hn : n ≤ 1099511627776) (hnc : n ≤ c) (h : Reads w B 1 A n (bcs l)) (q1 q2 : Nat) (q3 : Int) (hq : (q1, q2, q3) = look l most) :
   Calls Try.prog 28 #[.slice A n c, .int .i64 most] w fun e w' => e = .returned (.tuple #[.int .i64 q1, .int .i64 q2, .int .i64 q3]) ∧ w = w' := by
  have := number_any A n c l most w B hn hnc h
  rw [← hq] at this
  exact this
def numR (l : List UInt8) (i : Nat) (er most : Int) : Int × Nat × Int :=
  if er ≠ 0 then (0, i, er) else ((look (l.drop i) most).1, i + (look (l.drop i) most).2.1, (look (l.drop i) most).2.2)
end Go.Proofs.Ytbckpcofcgapdaa.Vlq
