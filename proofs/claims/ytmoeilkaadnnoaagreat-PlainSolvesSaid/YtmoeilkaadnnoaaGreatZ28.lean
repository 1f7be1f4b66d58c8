/-
  Some texts of this claim, one behind the other: WireB. What each proves, and its condition, stands at its head.
-/
import Derived.Test.YtmoeilkaadnnoaaGreatZ26
import Derived.Test.YtmoeilkaadnnoaaGreatZ7
import Derived.Test.YtmoeilkaadnnoaaGreatZ9
import Derived.Test.YtmoeilkaadnnoaaGreatZ5
/-
  New slices of bytes that a call makes: the contracts of the program's Put and Text in one form, the words for an append of bytes to bytes in a region that draws. Condition: texts of at most 24 bytes.
-/
namespace Go.Proofs.YtmoeilkaadnnoaaGreat.Wire
open Go Go.RowKit Go.Lib Go.Proofs.YtmoeilkaadnnoaaGreat.Grow
open Go.Proofs.YtmoeilkaadnnoaaGreat.Vlq (enc held encs)
set_option linter.unusedVariables false
/-- It answers a new slice of these bytes. -/
def MakesB (w : World) (L : List UInt8) (e : Ending) (w' : World) : Prop := ∃ A n c, e = .returned (.slice A n c) ∧ NewB w' w.heap.size A n c L ∧ Below w.heap.size w w'
theorem encs_one (n : Int) : [] ++ encs [n] = encN n := by simp [encs, encN]
theorem encs_two (a b : Int) : [] ++ encs [a, b] = encN a ++ encN b := by simp [encs, encN]
theorem reads_two (w : World) (a b : Int) (T : TypeId) (g : Nat) (hg : g = w.heap.size) : Reads (w.alloc (.cells #[.int .i64 a, .int .i64 b] T)) (w.heap.size + 1) 1 (some ⟨g, 0, none⟩) 2 (ics [a, b]) := by
  subst hg
  have h := Reads.newL w T #[.int .i64 a, .int .i64 b]
  exact ⟨rfl, fun _ => h.2 (by simp)⟩
/-- The relation 'it reads as these numbers'. -/
def isI (l : List Int) : Rel := fun w v => ∃ A n c, v = .slice A n c ∧ Reads w w.heap.size 1 A n (ics l)
theorem isI_stable (l : List Int) : ∀ w w' v, Below w.heap.size w w' → isI l w v → isI l w' v :=
  fun _ _ _ hb ⟨A, n, c, hv, hn⟩ => ⟨A, n, c, hv, (hn.below hb).more hb.size⟩
/-- What an append of bytes to bytes writes. -/
def catsB (B : Nat) (L1 L2 : List UInt8) : Wr := fun w1 v w2 => ∃ A n c, v = .slice A n c ∧ NewB w2 B A n c (L1 ++ L2) ∧ Below B w1 w2
theorem cats_of {w1 w2 : World} {B : Nat} {A1 : Option Addr} {n1 c1 n2 : Nat} {L1 L2 : List UInt8} {v : Value} (h1 : NewB w1 B A1 n1 c1 L1) (hn : n2 = L2.length) (hB : B ≤ w1.heap.size)
    (hown : w2.ownsRow B 5 1 v (n1 + n2) (bcs L1 ++ bcs L2)) (hg : w1.grownBy w2 (Value.slice A1 n1 c1).ownBlock) : catsB B L1 L2 w1 v w2 := by
  rw [← bcs_append] at hown
  obtain ⟨A, c, e, hN⟩ := new_of_own hown
  exact ⟨A, _, c, e, hN, (Below.refl _ _).grown hg hB (fun k hk => (h1.2.2.1.lt k hk).1)⟩
end Go.Proofs.YtmoeilkaadnnoaaGreat.Wire
