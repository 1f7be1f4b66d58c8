/-
  Terms in memory: a term that a call makes (its set in a row of the call's own), what is stored of one; how a term is written. No condition.
-/
import Derived.Test.YtgmkagddfbfolaaDoorTermMath
import Derived.Test.YtgmkagddfbfolaaDoorSpanForm
import Derived.Test.YtgmkagddfbfolaaDoorSpanCuts
import Derived.Test.YtgmkagddfbfolaaDoorSpanRefPut
import Derived.Test.YtgmkagddfbfolaaDoorRuleShowM
import Derived.Test.YtgmkagddfbfolaaDoorGrowW
namespace Go.Proofs.YtgmkagddfbfolaaDoor.Term
open Go Go.RowKit Go.Lib Go.Proofs.YtgmkagddfbfolaaDoor.Span Go.Proofs.YtgmkagddfbfolaaDoor.Need Go.Proofs.YtgmkagddfbfolaaDoor.Grow
open Go.Proofs.YtgmkagddfbfolaaDoor.Label (runes fitL)
open Go.Proofs.YtgmkagddfbfolaaDoor.Rule (showL)
set_option linter.unusedVariables false
/-- A call that answers a term whose set lies in a row of the call's own. -/
def MakesT (w : World) (t : Tm) (e : Ending) (w' : World) : Prop :=
  ∃ A n c, e = .returned (.agg #[.string t.name, .slice A n c, .bool t.none]) ∧ NewS w' w.heap.size A n c t.set ∧ Below w.heap.size w w'
theorem on_new {w : World} {B n c : Nat} {A : Option Addr} {l : List S} (h : NewS w B A n c l) : SpOn w A n l := h.2.2.2
theorem agg_d (l : Array Value) : Value.agg l ≠ undef := by intro h; cases h
theorem slice_d (A : Option Addr) (n c : Nat) : Value.slice A n c ≠ undef := by intro h; cases h
/-- The relations 'a new slice of these spans', 'a term that was made'. -/
def setR (B : Nat) (l : List S) : Rel := fun w v => ∃ A n c, v = .slice A n c ∧ NewS w B A n c l
theorem setR_stable (B : Nat) (l : List S) : ∀ w w' v, Below w.heap.size w w' → setR B l w v → setR B l w' v := fun _ _ _ hb ⟨A, n, c, hv, hn⟩ => ⟨A, n, c, hv, hn.below hb⟩
def tmR (B : Nat) (t : Tm) : Rel := fun w v => ∃ A n c, v = .agg #[.string t.name, .slice A n c, .bool t.none] ∧ NewS w B A n c t.set
theorem tmR_stable (B : Nat) (t : Tm) : ∀ w w' v, Below w.heap.size w w' → tmR B t w v → tmR B t w' v := fun _ _ _ hb ⟨A, n, c, hv, hn⟩ => ⟨A, n, c, hv, hn.below hb⟩
/-- What is stored of a term. -/
def storesT (g B : Nat) (t : Tm) : Wr := fun w1 _ w2 => ∃ A n c, NewS w1 B A n c t.set ∧ w2 = ((w1.setCell ⟨g, 0, none⟩ (.string t.name)).setCell ⟨g, 1, none⟩ (.slice A n c)).setCell ⟨g, 2, none⟩ (.bool t.none)
/-- A row of a call's own stays where another block is written. -/
theorem far_new {w : World} {B n c : Nat} {A : Option Addr} {l : List S} (h : NewS w B A n c l) {p : Addr} (hp : p.block < B) (v : Value) : NewS (w.setCell p v) B A n c l := by
  obtain ⟨A', c', e, hN⟩ := newS_of_own (ownsRow_setCell_below h.2.2.1 hp v)
  injection e with e1 e2 e3
  subst e1 e3
  exact hN
theorem stored_blk {w : World} {g B : Nat} {t : Tm} {A : Option Addr} {n c : Nat} {cs : Array Value} (h : Blk w g 24 cs) (h3 : cs.size = 3) (hN : NewS w B A n c t.set) (hg : g < B) :
    Blk (((w.setCell ⟨g, 0, none⟩ (.string t.name)).setCell ⟨g, 1, none⟩ (.slice A n c)).setCell ⟨g, 2, none⟩ (.bool t.none)) g 24 #[.string t.name, .slice A n c, .bool t.none] ∧
      NewS (((w.setCell ⟨g, 0, none⟩ (.string t.name)).setCell ⟨g, 1, none⟩ (.slice A n c)).setCell ⟨g, 2, none⟩ (.bool t.none)) B A n c t.set := by
  have hb := ((h.set_ 0 (.string t.name)).set_ 1 (.slice A n c)).set_ 2 (.bool t.none)
  have e : ((cs.setIfInBounds 0 (.string t.name)).setIfInBounds 1 (.slice A n c)).setIfInBounds 2 (.bool t.none) = #[.string t.name, .slice A n c, .bool t.none] := by
    apply Array.ext
    · simp [h3]
    · intro i h1 h2
      have : i < 3 := by simpa [h3] using h1
      rcases i with _ | _ | _ | i
      · simp [h3]
      · simp [h3]
      · simp
      · omega
  rw [e] at hb
  exact ⟨hb, far_new (far_new (far_new hN (by exact hg) _) (by exact hg) _) (by exact hg) _⟩
/-- The relation 'a slice that reads as these spans'. -/
def spR (L : List S) : Rel := fun w v => ∃ A n c, v = .slice A n c ∧ SpOn w A n L
theorem spR_stable (L : List S) : ∀ w w' v, Below w.heap.size w w' → spR L w v → spR L w' v := fun _ _ _ hb ⟨A, n, c, hv, h⟩ => ⟨A, n, c, hv, h.on hb⟩
/-! How a term is written. -/
def wFull : ByteArray := ⟨#[119, 104, 97, 116, 101, 118, 101, 114]⟩
def wEmpty : ByteArray := ⟨#[110, 111, 119, 104, 101, 114, 101]⟩
def wAbsent : ByteArray := ⟨#[97, 98, 115, 101, 110, 116]⟩
def wOr : ByteArray := ⟨#[32, 111, 114, 32]⟩
def wBlank : ByteArray := ⟨#[32]⟩
def statesT (t : Tm) : ByteArray :=
  if fullT t = true then wFull else if emptyT t = true then wEmpty else if t.set = [] then wAbsent else if t.none = true then str (showL t.set) ++ wOr ++ wAbsent else str (showL t.set)
def showT (t : Tm) : ByteArray := if okT t = true then t.name ++ wBlank ++ statesT t else ⟨#[]⟩
end Go.Proofs.YtgmkagddfbfolaaDoor.Term
