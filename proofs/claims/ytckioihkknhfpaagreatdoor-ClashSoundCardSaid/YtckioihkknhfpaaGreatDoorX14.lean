/-
  Some texts of this claim, one behind the other: Words. What each proves, and its condition, stands at its head.
-/
import Derived.Test.YtckioihkknhfpaaGreatDoorX1
import Derived.Test.YtckioihkknhfpaaGreatDoorChecked
import Derived.Lib.SlBytesConst
/-
  Words for slices of bytes: a new slice of bytes, string() of it, what stays as memory grows. No condition.
-/
namespace Go.Proofs.YtckioihkknhfpaaGreatDoor
open Go.RowKit
set_option linter.unusedVariables false
theorem conv_new (W : World) (zs : List Int) (c : Nat) : (convert 71 9 (.slice (some ⟨W.heap.size, 0, none⟩) zs.length c)).run Tryz.prog (W.alloc (.cells (zs.map (Value.int .u8)).toArray 5)) = .ok (.string (strOfNums zs)) (W.alloc (.cells (zs.map (Value.int .u8)).toArray 5)) := by
  refine run_convert_bytes_arg (P := Tryz.prog) _ 71 5 Tryz.underlying71 Tryz.underlying5 W.heap.size 0 zs.length c zs rfl ?_ 9 Tryz.underlying9
  intro i hi
  refine (World.cell?_alloc_at _ _ _ _ rfl).trans ?_
  simp [hi]
def NewB (w : World) (B : Nat) (A : Option Addr) (n c : Nat) (l : List UInt8) : Prop :=
  n = l.length ∧ n ≤ c ∧ w.ownsRow B 5 1 (.slice A n c) n (bcs l) ∧ Reads w w.heap.size 1 A n (bcs l)
theorem conv_of {w : World} {B n c : Nat} {A : Option Addr} {l : List UInt8} (h : Reads w B 1 A n (bcs l)) : (convert 71 9 (.slice A n c)).run Tryz.prog w = .ok (.string (str l)) w :=
  run_str w _ _ _ c Tryz.underlying71 Tryz.underlying5 Tryz.underlying9 h
theorem NewB.conv {w : World} {B : Nat} {A : Option Addr} {n c : Nat} {l : List UInt8} (h : NewB w B A n c l) : (convert 71 9 (.slice A n c)).run Tryz.prog w = .ok (.string (str l)) w := conv_of h.2.2.2
theorem NewB.below {w w' : World} {B : Nat} {A : Option Addr} {n c : Nat} {l : List UInt8} (h : NewB w B A n c l) (hb : Below w.heap.size w w') : NewB w' B A n c l :=
  ⟨h.1, h.2.1, own_below h.2.2.1 hb, (h.2.2.2.below hb).more hb.size⟩
theorem NewB.less {w : World} {B B' : Nat} {A : Option Addr} {n c : Nat} {l : List UInt8} (h : NewB w B A n c l) (hB : B' ≤ B) : NewB w B' A n c l :=
  ⟨h.1, h.2.1, own_less h.2.2.1 hB, h.2.2.2⟩
end Go.Proofs.YtckioihkknhfpaaGreatDoor
