/-
  Some texts of this claim, one behind the other: WireNum. What each proves, and its condition, stands at its head.
-/
import Derived.Test.YtdggnakjfcmnmaaZB12
import Derived.Test.YtdggnakjfcmnmaaZB13
import Derived.Lib.Strings
/-
  Plain mathematics of numbers, texts and lists as bytes: what is written, what is read, what was written is read, and what is read was written so. No program.
-/
namespace Go.Proofs.Ytdggnakjfcmnmaa.Wire
open Go.RowKit Go.Lib
open Go.Proofs.Ytdggnakjfcmnmaa.Vlq (enc held held_le held_of enc_pos hi hi_zero hi_pos val look_enc look_most look_le numM strM closedM wd width val_snoc)
set_option linter.unusedVariables false
def encN (n : Int) : List UInt8 := enc (held n)
def flat {α : Type} (B : α → List UInt8) (l : List α) : List UInt8 := l.flatMap B
def listB {α : Type} (B : α → List UInt8) (l : List α) : List UInt8 := encN l.length ++ flat B l
def textB (nm : ByteArray) : List UInt8 := enc nm.size ++ nm.data.toList
abbrev St := List UInt8 × Int
def numS (most : Int) (s : St) : Int × St := numM s.1 s.2 most
def strS (most : Int) (s : St) : List UInt8 × St := strM s.1 s.2 most
def listS {α : Type} (one : St → α × St) : Nat → St → List α × St
  | 0, s => ([], s)
  | n + 1, s => ((listS one n s).1 ++ [(one (listS one n s).2).1], (one (listS one n s).2).2)
def takeS {α : Type} (most : Int) (one : St → α × St) (s : St) : List α × St := listS one (numS most s).1.toNat (numS most s).2
def Back {α : Type} (one : St → α × St) (B : α → List UInt8) (P : α → Prop) : Prop := ∀ x t, P x → one (B x ++ t, 0) = (x, (t, 0))
def Canon {α : Type} (one : St → α × St) (B : α → List UInt8) : Prop := ∀ s, (one s).2.2 = 0 → s.2 = 0 ∧ s.1 = B (one s).1 ++ (one s).2.1
end Go.Proofs.Ytdggnakjfcmnmaa.Wire
