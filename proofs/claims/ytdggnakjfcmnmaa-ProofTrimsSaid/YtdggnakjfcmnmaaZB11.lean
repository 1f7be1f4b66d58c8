/-
  Some texts of this claim, one behind the other: Words, VlqRef. What each proves, and its condition, stands at its head.
-/
import Derived.Test.YtdggnakjfcmnmaaZB1
import Derived.Test.YtdggnakjfcmnmaaChecked
import Derived.Lib.SlBytesConst
import Derived.Test.YtdggnakjfcmnmaaZB10
/-
  Words for slices of bytes: a new slice of bytes, string() of it, what stays as memory grows. No condition.
-/
namespace Go.Proofs.Ytdggnakjfcmnmaa
open Go.RowKit
set_option linter.unusedVariables false
theorem conv_new (W : World) (zs : List Int) (c : Nat) : (convert 30 9 (.slice (some ⟨W.heap.size, 0, none⟩) zs.length c)).run Try.prog (W.alloc (.cells (zs.map (Value.int .u8)).toArray 5)) = .ok (.string (strOfNums zs)) (W.alloc (.cells (zs.map (Value.int .u8)).toArray 5)) := by
  refine run_convert_bytes_arg (P := Try.prog) _ 30 5 Try.underlying30 Try.underlying5 W.heap.size 0 zs.length c zs rfl ?_ 9 Try.underlying9
  intro i hi
  refine (World.cell?_alloc_at _ _ _ _ rfl).trans ?_
  simp [hi]
def NewB (w : World) (B : Nat) (A : Option Addr) (n c : Nat) (l : List UInt8) : Prop :=
  n = l.length ∧ n ≤ c ∧ w.ownsRow B 5 1 (.slice A n c) n (bcs l) ∧ Reads w w.heap.size 1 A n (bcs l)
theorem conv_of {w : World} {B n c : Nat} {A : Option Addr} {l : List UInt8} (h : Reads w B 1 A n (bcs l)) : (convert 30 9 (.slice A n c)).run Try.prog w = .ok (.string (str l)) w :=
  run_str w _ _ _ c Try.underlying30 Try.underlying5 Try.underlying9 h
theorem NewB.conv {w : World} {B : Nat} {A : Option Addr} {n c : Nat} {l : List UInt8} (h : NewB w B A n c l) : (convert 30 9 (.slice A n c)).run Try.prog w = .ok (.string (str l)) w := conv_of h.2.2.2
theorem NewB.below {w w' : World} {B : Nat} {A : Option Addr} {n c : Nat} {l : List UInt8} (h : NewB w B A n c l) (hb : Below w.heap.size w w') : NewB w' B A n c l :=
  ⟨h.1, h.2.1, own_below h.2.2.1 hb, (h.2.2.2.below hb).more hb.size⟩
theorem NewB.less {w : World} {B B' : Nat} {A : Option Addr} {n c : Nat} {l : List UInt8} (h : NewB w B A n c l) (hB : B' ≤ B) : NewB w B' A n c l :=
  ⟨h.1, h.2.1, own_less h.2.2.1 hB, h.2.2.2⟩
end Go.Proofs.Ytdggnakjfcmnmaa
/-
  The contracts of the document's own Num, Nums and Text: they answer the bytes as the plain mathematics has them. Condition: lists and texts as long as a call may have them.
-/
namespace Go.Proofs.Ytdggnakjfcmnmaa.Vlq
open Go.RowKit
set_option linter.unusedVariables false
theorem conv1 (W : World) (z : Int) : (convert 30 9 (.slice (some ⟨W.heap.size, 0, none⟩) 1 1)).run Try.prog (W.alloc (.cells #[.int .u8 z] 5)) = .ok (.string (strOfNums [z])) (W.alloc (.cells #[.int .u8 z] 5)) := by
  refine run_convert_bytes_arg (P := Try.prog) (W.alloc (.cells #[.int .u8 z] 5)) 30 5 Try.underlying30 Try.underlying5 W.heap.size 0 1 1 [z] rfl ?_ 9 Try.underlying9
  intro i hi
  have h0 : i = 0 := by omega
  subst h0
  exact (World.cell?_alloc_at _ _ _ _ rfl).trans rfl
theorem strOfNums_one (z : Int) (y : Nat) (h : z = (y : Int)) : strOfNums [z] = str [UInt8.ofNat y] := by subst h; simp [strOfNums, str]
def encs (l : List Int) : List UInt8 := l.flatMap fun n => enc (held n)
end Go.Proofs.Ytdggnakjfcmnmaa.Vlq
