/-
  Some texts of this claim, one behind the other: VerPlace, VerAfter, VerRead, VerAwake. What each proves, and its condition, stands at its head.
-/
import Derived.Test.YtdggnakjfcmnmaaZB18
import Derived.LoopTactic
import Derived.LoopN
import Derived.Laws.ResultCell
import Derived.ChangeKeysEq
import Derived.Test.YtdggnakjfcmnmaaZB17
/-
  The contracts of the program's and the document's own fit, Parts and Place. Condition: the program's table holds what its text lays in it.
-/
namespace Go.Proofs.Ytdggnakjfcmnmaa.Ver
open Go.RowKit Go.Lib
set_option linter.unusedVariables false
theorem refFit_yes (p : Int) (w : World) (h0 : 0 ≤ p) (h1 : p < 1000000000) :
    Calls Try.prog 45 #[.int .i64 p] w fun e w' => e = .returned (.bool true) ∧ w = w' := by
  go_enter Try.func45, Try.ntmps45
  go_wp2
  go_ret
  exact ⟨rfl, rfl⟩
theorem refFit_no (p : Int) (w : World) (h : ¬ (0 ≤ p ∧ p < 1000000000)) :
    Calls Try.prog 45 #[.int .i64 p] w fun e w' => e = .returned (.bool false) ∧ w = w' := by
  by_cases h0 : 0 ≤ p
  · have h1 : ¬ p < 1000000000 := fun h1 => h ⟨h0, h1⟩
    clear h
    go_enter Try.func45, Try.ntmps45
    go_wp2
    go_ret
    exact ⟨rfl, rfl⟩
  · clear h
    go_enter Try.func45, Try.ntmps45
    go_wp2
    go_ret
    exact ⟨rfl, rfl⟩
def same3 (x y z x' y' z' : Int) : Bool := (x == x') && ((y == y') && (z == z'))
end Go.Proofs.Ytdggnakjfcmnmaa.Ver
/-
  The contracts of the program's and the document's own After, and of the document's digits and text. Condition: the program's table holds what its text lays in it.
-/
namespace Go.Proofs.Ytdggnakjfcmnmaa.Ver
open Go.RowKit Go.Lib
set_option linter.unusedVariables false
theorem conv1 (W : World) (z : Int) : (convert 30 9 (.slice (some ⟨W.heap.size, 0, none⟩) 1 1)).run Try.prog (W.alloc (.cells #[.int .u8 z] 5)) = .ok (.string (strOfNums [z])) (W.alloc (.cells #[.int .u8 z] 5)) :=
  conv_new W [z] 1
theorem strOfNums_one (z : Int) (y : Nat) (h : z = (y : Int)) : strOfNums [z] = str [UInt8.ofNat y] := by subst h; simp [strOfNums, str]
end Go.Proofs.Ytdggnakjfcmnmaa.Ver
/-
  The contracts of the program's and the document's own Read. Condition: the tables hold what the texts lay in them; the text is no longer than a text may be.
-/
namespace Go.Proofs.Ytdggnakjfcmnmaa.Ver
open Go.RowKit Go.Lib Go.Proofs.Ytdggnakjfcmnmaa.Label
set_option linter.unusedVariables false
theorem pos_of {w : World} {k : Nat} {s : ByteArray} {p : Nat} (h : w.heap[k]? = some (.stringIter s p)) : w.iterPos k = p := by simp [World.iterPos, h]
def fin (s : ByteArray) : Option St → Option Nat
  | none => none
  | some t => if Fits t.x t.y t.z ∧ str (txt (placeN t.x t.y t.z)) = s then some (placeN t.x t.y t.z) else none
theorem toList_data (a : ByteArray) : a.toList = a.data.toList := (congrArg ByteArray.toList (str_of a).symm).trans (str_toList _)
end Go.Proofs.Ytdggnakjfcmnmaa.Ver
/-
  The contracts of ver's faces in one form each, and the statements' own examples: they hold. Condition: the tables hold what the texts lay in them.
-/
namespace Go.Proofs.Ytdggnakjfcmnmaa.Ver
open Go.RowKit Go.Lib Go.Proofs.Ytdggnakjfcmnmaa.Label
set_option linter.unusedVariables false
def plV (x y z : Int) : Int := if Fits x y z then (placeN x y z : Nat) else 0
def isFit (p : Int) : Bool := decide (0 ≤ p ∧ p < 1000000000)
def pzA (p : Int) : Int := if 0 ≤ p ∧ p < 1000000000 then (pA p.toNat : Nat) else 0
def pzB (p : Int) : Int := if 0 ≤ p ∧ p < 1000000000 then (pB p.toNat : Nat) else 0
def pzC (p : Int) : Int := if 0 ≤ p ∧ p < 1000000000 then (pC p.toNat : Nat) else 0
def txz (p : Int) : List UInt8 := if 0 ≤ p ∧ p < 1000000000 then txt p.toNat else []
def afz (p k : Int) : Int := if (0 ≤ p ∧ p < 1000000000) ∧ 0 ≤ k ∧ k < 3 then (afterN p.toNat k.toNat : Nat) else 0
end Go.Proofs.Ytdggnakjfcmnmaa.Ver
