/-
  Some texts of this claim, one behind the other: ManiNamesM. What each proves, and its condition, stands at its head.
-/
import Derived.Test.YtdggnakjfcmnmaaZC25
import Derived.Sort.KeysCollected
/-
  Plain mathematics of names: a name put into names that rise, once; the names that releases need. No program.
-/
namespace Go.Proofs.Ytdggnakjfcmnmaa.Mani
open Go Go.RowKit Go.Lib Go.Proofs.Ytdggnakjfcmnmaa.Span Go.Proofs.Ytdggnakjfcmnmaa.Need
set_option linter.unusedVariables false
def addF (x : ByteArray) : Bool → List ByteArray → List ByteArray
  | i, [] => if i = true then [] else [x]
  | i, y :: t => if i = true then y :: addF x i t else if nlt x y = true then x :: y :: addF x true t else if x = y then x :: addF x true t else y :: addF x i t
def RisesN (l : List ByteArray) : Prop := l.Pairwise fun x y => nlt x y = true
def foldN (acc : List ByteArray) : List ByteArray := acc.foldl (fun o x => addF x false o) []
def namesS (s : List Nd) : List ByteArray := s.map Prod.fst
def allN (l : List Rl) : List ByteArray := l.flatMap fun q => namesS q.2
def bytesOf (x : ByteArray) : List UInt8 := x.data.toList
def setN (acc : List ByteArray) : DataW Unit := Maps.setOf (.agg []) (acc.map fun x => Lit.string (bytesOf x))
end Go.Proofs.Ytdggnakjfcmnmaa.Mani
