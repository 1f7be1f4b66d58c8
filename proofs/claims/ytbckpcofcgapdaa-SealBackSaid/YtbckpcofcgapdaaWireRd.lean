/-
  Both readers as they are told by what is left: their contracts over a state of bytes and an error. Condition: no more than 2^40 bytes.
-/
import Derived.Test.YtbckpcofcgapdaaWireNum
namespace Go.Proofs.Ytbckpcofcgapdaa.Wire
open Go Go.RowKit Go.Lib
open Go.Proofs.Ytbckpcofcgapdaa.Vlq (RdV RdM str_any numR strR numM strM numM_of strM_of numR_le strR_le refRdStr_any open_any close_any closed closedM closed_of refClose_any)
set_option linter.unusedVariables false
/-- The program's reader in block g: what is left, and the error. -/
def RdS (w : World) (g : Nat) (s : St) : Prop := ∃ L j, RdV w g L j s.2 ∧ L.drop j = s.1 ∧ j ≤ L.length
theorem RdS.lt {w : World} {g : Nat} {s : St} (h : RdS w g s) : g < w.heap.size := by
  obtain ⟨L, j, h1, _⟩ := h
  exact h1.lt
theorem RdS.grown {w w' : World} {g : Nat} {row : Option Nat} {s : St} (h : RdS w g s) (hb : w.grownBy w' row) (hg : ∀ k, row = some k → g < k) : RdS w' g s := by
  obtain ⟨L, j, h1, h2⟩ := h
  exact ⟨L, j, h1.grown hb hg, h2⟩
theorem RdS.below {w w' : World} {g B : Nat} {s : St} (h : RdS w g s) (hb : Below B w w') (hg : g < B) : RdS w' g s := by
  obtain ⟨L, j, h1, h2⟩ := h
  exact ⟨L, j, h1.below hb hg, h2⟩
theorem RdS.alloc {w : World} {g : Nat} {s : St} (h : RdS w g s) (o : Obj) : RdS (w.alloc o) g s := h.below ((Below.refl _ _).alloc (Nat.le_refl _) o) h.lt
theorem str_S (g : Nat) (s : St) (most : Int) (w : World) (h : RdS w g s) :
    Calls Try.prog 13 #[.pointer (some ⟨g, 0, none⟩), .int .i64 most] w fun e w' => e = .returned (.string (str (strS most s).1)) ∧ RdS w' g (strS most s).2 ∧ w.grownBy w' (some g) := by
  obtain ⟨L, j, h1, h2, h3⟩ := h
  obtain ⟨l, er⟩ := s
  simp only at h1 h2
  subst h2
  refine (str_any g L j er most w h1).mono ?_
  rintro e w' ⟨rfl, h4, h5⟩
  have e := strM_of L j er most h3
  refine ⟨by unfold strS; rw [e], ⟨L, _, ?_, ?_, strR_le L j er most h3⟩, h5⟩
  · unfold strS
    rw [e]
    exact h4
  · unfold strS
    rw [e]
theorem open_S (A : Option Addr) (n c : Nat) (l : List UInt8) (w : World) (hn : n ≤ 1099511627776) (h : Reads w w.heap.size 1 A n (bcs l)) :
    Calls Try.prog 12 #[.slice A n c] w fun e w' => ∃ g, e = .returned (.pointer (some ⟨g, 0, none⟩)) ∧ w.heap.size ≤ g ∧ RdS w' g (l, 0) ∧ Below w.heap.size w w' := by
  refine (open_any A n c l w hn h).mono ?_
  rintro e w' ⟨g, rfl, h1, h2, h3⟩
  exact ⟨g, rfl, h1, ⟨l, 0, h2, rfl, Nat.zero_le _⟩, h3⟩
theorem close_S (g : Nat) (s : St) (w : World) (h : RdS w g s) : Calls Try.prog 14 #[.pointer (some ⟨g, 0, none⟩)] w fun e w' => e = .returned (.int .i64 (closedM s.1 s.2)) ∧ ∃ n, w' = w.drewN n := by
  obtain ⟨L, j, h1, h2, h3⟩ := h
  rw [← h2, closed_of L j s.2 h3]
  exact close_any g L j s.2 w h1
/-- The document's reader in block g. -/
def RdD (w : World) (g : Nat) (s : St) : Prop := RdM w g s.1 s.2
theorem RdD.lt {w : World} {g : Nat} {s : St} (h : RdD w g s) : g < w.heap.size := h.1.lt
theorem RdD.grown {w w' : World} {g : Nat} {row : Option Nat} {s : St} (h : RdD w g s) (hb : w.grownBy w' row) (hg : some g ≠ row) : RdD w' g s := Vlq.RdM.grown h hb hg
theorem RdD.alloc {w : World} {g : Nat} {s : St} (h : RdD w g s) (o : Obj) : RdD (w.alloc o) g s := Vlq.RdM.below h ((Below.refl _ _).alloc (Nat.le_refl _) o) h.1.lt
theorem str_D (g : Nat) (s : St) (most : Int) (w : World) (h : RdD w g s) :
    Calls Try.prog 17 #[.pointer (some ⟨g, 0, none⟩), .int .i64 most] w fun e w' => e = .returned (.string (str (strS most s).1)) ∧ RdD w' g (strS most s).2 ∧ w.grownBy w' (some g) :=
  refRdStr_any g s.1 s.2 most w h
theorem close_D (g : Nat) (s : St) (w : World) (h : RdD w g s) : Calls Try.prog 18 #[.pointer (some ⟨g, 0, none⟩)] w fun e w' => e = .returned (.int .i64 (closedM s.1 s.2)) ∧ w = w' := refClose_any g s.1 s.2 w h
end Go.Proofs.Ytbckpcofcgapdaa.Wire
