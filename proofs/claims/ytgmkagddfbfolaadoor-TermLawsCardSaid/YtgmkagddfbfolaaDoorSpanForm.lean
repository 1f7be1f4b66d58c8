/-
  The form of layer 6's contracts: a slice that reads as spans in the world at hand; a call that makes such a slice, a call that tells a value. No condition.
-/
import Derived.Test.YtgmkagddfbfolaaDoorSpanCells
namespace Go.Proofs.YtgmkagddfbfolaaDoor.Span
open Go Go.RowKit Go.Lib
set_option linter.unusedVariables false
/-- A slice that reads as spans in the world at hand. -/
def SpOn (w : World) (A : Option Addr) (n : Nat) (l : List S) : Prop := SpIn w w.heap.size A n l
theorem SpOn.on {w w' : World} {A : Option Addr} {n : Nat} {l : List S} (h : SpOn w A n l) (hb : Below w.heap.size w w') : SpOn w' A n l := (SpIn.below h hb).more hb.size
theorem spOn_of {w : World} {A : Option Addr} {n : Nat} {l : List S} (h : RowOf (liePair (lieInt .i64) (lieInt .i64)) w w.heap.size A n l) : SpOn w A n l :=
  ⟨h.1, fun hn => by
    obtain ⟨ad, hA, hB, hc⟩ := h.2 hn
    refine ⟨ad, hA, hB, fun i p hp => ?_⟩
    obtain ⟨cs, h1, c1, c2, e, ⟨e1, _⟩, ⟨e2, _⟩⟩ := hc i p hp
    subst e e1 e2
    have x0 := h1 0 (by simp)
    have x1 := h1 1 (by simp)
    rw [add_of_add] at x0 x1
    rw [← add_field]
    exact ⟨by simpa [liePair, lieInt] using x0, by simpa [liePair, lieInt] using x1⟩⟩
section
variable {A A' : Option Addr} {n c n' c' : Nat} {l m : List S} {w : World}
theorem SpOn.len (h : SpOn w A n l) : n = l.length := h.1.symm
theorem SpOn.le (h : SpOn w A n l) (hs : isSet (-1) l = true) : n ≤ 1000000001 := by rw [h.len]; exact len_le hs
theorem quiet_b {w : World} (k : Nat) : Below w.heap.size w (w.drewN k) := below_drewN (Below.refl _ _) k
def Makes (w : World) (L : List S) (e : Ending) (w' : World) : Prop := ∃ A n c, e = .returned (.slice A n c) ∧ SpOn w' A n L ∧ Below w.heap.size w w'
def Tells (w : World) (v : Value) (e : Ending) (w' : World) : Prop := e = .returned v ∧ Below w.heap.size w w'
theorem tells_same {f : FuncId} {args : Array Value} {v : Value} (h : Calls Tryd.prog f args w fun e w' => e = .returned v ∧ w = w') : Calls Tryd.prog f args w (Tells w v) :=
  h.mono fun _ _ ⟨he, hw⟩ => ⟨he, by subst hw; exact Below.refl _ _⟩
theorem tells_drew {f : FuncId} {args : Array Value} {v : Value} (h : Calls Tryd.prog f args w fun e w' => e = .returned v ∧ ∃ k, w' = w.drewN k) : Calls Tryd.prog f args w (Tells w v) :=
  h.mono fun _ _ ⟨he, k, hw⟩ => ⟨he, by subst hw; exact quiet_b k⟩
end
theorem alloc_b {w : World} (o : Obj) : Below w.heap.size w (w.alloc o) := (Below.refl _ _).alloc (Nat.le_refl _) o
end Go.Proofs.YtgmkagddfbfolaaDoor.Span
