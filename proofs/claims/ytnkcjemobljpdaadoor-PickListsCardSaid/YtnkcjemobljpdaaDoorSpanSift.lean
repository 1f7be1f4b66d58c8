/-
  The contract of the program's sift, over any closure that tells of two booleans and writes nothing: the set of the places that are kept; and of Union, Meet, Not, Within over it. Condition: the slices read as sets.
-/
import Derived.Test.YtnkcjemobljpdaaDoorSpanRead
import Derived.Test.YtnkcjemobljpdaaDoorSpanPut
import Derived.Shelf.Abstract
namespace Go.Proofs.YtnkcjemobljpdaaDoor.Span
open Go.RowKit Go.Lib
set_option linter.unusedVariables false
/-- What is kept of two sets. -/
def kept (K : Bool → Bool → Bool) (a b : List S) (p : Int) : Bool := K (has a p) (has b p)
theorem sift_step {K : Bool → Bool → Bool} {a b : List S} (ha : isSet (-1) a = true) (hb : isSet (-1) b = true) (lo : Int) (i j : Nat) (h0 : 0 ≤ lo) (h1 : lo < 1000000000)
    (hi : Past a lo i) (hj : Past b lo j) (hi2 : lo < edge a i) (hj2 : lo < edge b j) (hh : Int) (hm : hh = min (edge a i) (edge b j)) :
    lo < hh ∧ hh ≤ 1000000000 ∧ Past a hh i ∧ Past b hh j ∧
      (K (decide (i % 2 = 1)) (decide (j % 2 = 1)) = true → nfTo (kept K a b) hh = put (nfTo (kept K a b) lo) (lo, hh)) ∧
      (K (decide (i % 2 = 1)) (decide (j % 2 = 1)) = false → nfTo (kept K a b) hh = nfTo (kept K a b) lo) := by
  have h2 := edge_range a (-1) i ha hi.1
  have hlt : lo < hh := by omega
  have key : ∀ p, lo ≤ p → p < hh → kept K a b p = K (decide (i % 2 = 1)) (decide (j % 2 = 1)) := fun p p0 p1 => by
    unfold kept
    rw [hi.has_ ha p0 (by omega), hj.has_ hb p0 (by omega)]
  exact ⟨hlt, by omega, hi.more (by omega), hj.more (by omega), fun hk => nfTo_take (fun p p0 p1 => by rw [key p p0 p1, hk]) h0 hlt (by omega),
    fun hk => nfTo_skip (fun p p0 p1 => by rw [key p p0 p1, hk]) (by omega)⟩
theorem mod_two (i : Nat) : ((i : Int) % 2 == 1) = decide (i % 2 = 1) := by
  rw [Bool.eq_iff_iff]; simp; omega
noncomputable def unionS (a b : List S) : List S := nf (kept (fun x y => x || y) a b)
noncomputable def meetS (a b : List S) : List S := nf (kept (fun x y => x && y) a b)
noncomputable def notS (a : List S) : List S := nf (kept (fun x y => !x) a [])
noncomputable def lessS (a b : List S) : List S := nf (kept (fun x y => x && !y) a b)
end Go.Proofs.YtnkcjemobljpdaaDoor.Span
