/-
  The contracts of layer 6 in one form: slices that read so in the world at hand; what was made stays. And the chapter's examples (awake). No condition beyond each contract's own.
-/
import Derived.Test.YtgmkagddfbfolaaDoorSpanDo
import Derived.Test.YtgmkagddfbfolaaDoorSpanCount
import Derived.Test.YtgmkagddfbfolaaDoorSpanEnds
import Derived.Test.YtgmkagddfbfolaaDoorSpanRefCheck
import Derived.Test.YtgmkagddfbfolaaDoorSpanForm
namespace Go.Proofs.YtgmkagddfbfolaaDoor.Span
open Go Go.RowKit Go.Lib
set_option linter.unusedVariables false
section
variable {A A' : Option Addr} {n c n' c' : Nat} {l m : List S} {w : World}
theorem makes_of {f : FuncId} {args : Array Value} {B : Nat} {L : List S} (h : Calls Tryd.prog f args w fun e w' => ∃ A n c, e = .returned (.slice A n c) ∧ NewS w' B A n c L ∧ Below w.heap.size w w') :
    Calls Tryd.prog f args w (Makes w L) := h.mono fun _ _ ⟨A, n, c, he, hN, hb⟩ => ⟨A, n, c, he, hN.2.2.2, hb⟩
theorem makes_of' {f : FuncId} {args : Array Value} {L : List S} (h : Calls Tryd.prog f args w fun e w' => ∃ A n c, e = .returned (.slice A n c) ∧ SpIn w' w'.heap.size A n L ∧ Below w.heap.size w w') :
    Calls Tryd.prog f args w (Makes w L) := h
theorem union_on (h : SpOn w A n l) (h' : SpOn w A' n' m) (hs : isSet (-1) l = true) (hs' : isSet (-1) m = true) : Calls Tryd.prog 47 #[.slice A n c, .slice A' n' c'] w (Makes w (unionS l m)) :=
  makes_of (union_any w h h' (Nat.le_refl _) (Nat.le_refl _) hs hs')
theorem meet_on (h : SpOn w A n l) (h' : SpOn w A' n' m) (hs : isSet (-1) l = true) (hs' : isSet (-1) m = true) : Calls Tryd.prog 44 #[.slice A n c, .slice A' n' c'] w (Makes w (meetS l m)) :=
  makes_of (meet_any w h h' (Nat.le_refl _) (Nat.le_refl _) hs hs')
theorem not_on (h : SpOn w A n l) (hs : isSet (-1) l = true) : Calls Tryd.prog 38 #[.slice A n c] w (Makes w (notS l)) :=
  makes_of (not_any w h (Nat.le_refl _) hs)
theorem refUnion_on (h : SpOn w A n l) (h' : SpOn w A' n' m) (hn : n ≤ 1000) (hn' : n' ≤ 1000) : Calls Tryd.prog 48 #[.slice A n c, .slice A' n' c'] w (Makes w (unionS l m)) :=
  makes_of (refUnion_any w h h' (Nat.le_refl _) (Nat.le_refl _) hn hn')
theorem refMeet_on (h : SpOn w A n l) (h' : SpOn w A' n' m) (hn : n ≤ 1000) (hn' : n' ≤ 1000) : Calls Tryd.prog 45 #[.slice A n c, .slice A' n' c'] w (Makes w (meetS l m)) :=
  makes_of (refMeet_any w h h' (Nat.le_refl _) (Nat.le_refl _) hn hn')
theorem refNot_on (h : SpOn w A n l) (hn : n ≤ 1000) : Calls Tryd.prog 39 #[.slice A n c] w (Makes w (notS l)) :=
  makes_of (refNot_any w h (Nat.le_refl _) hn)
theorem within_on (h : SpOn w A n l) (h' : SpOn w A' n' m) (hs : isSet (-1) l = true) (hs' : isSet (-1) m = true) : Calls Tryd.prog 49 #[.slice A n c, .slice A' n' c'] w (Tells w (.bool (decide (lessS l m = [])))) :=
  within_any w h h' (Nat.le_refl _) (Nat.le_refl _) hs hs'
theorem refWithin_on (h : SpOn w A n l) (h' : SpOn w A' n' m) (hn : n ≤ 1000) (hn' : n' ≤ 1000) (hs : isSet (-1) l = true) : Calls Tryd.prog 50 #[.slice A n c, .slice A' n' c'] w (Tells w (.bool (decide (lessS l m = [])))) :=
  refWithin_any w h h' (Nat.le_refl _) (Nat.le_refl _) hn hn' hs
theorem check_on (h : SpOn w A n l) (hn : n ≤ 1000000001) : Calls Tryd.prog 28 #[.slice A n c] w (Tells w (.bool (isSet (-1) l))) := check_any w h (Nat.le_refl _) hn
theorem check_yes (h : SpOn w A n l) (hs : isSet (-1) l = true) : Calls Tryd.prog 28 #[.slice A n c] w (Tells w (.bool true)) := by
  have := check_on (c := c) h (h.le hs); rwa [hs] at this
theorem refCheck_on (h : SpOn w A n l) (hn : n ≤ 1000000001) : Calls Tryd.prog 30 #[.slice A n c] w (Tells w (.bool (isSet (-1) l))) := tells_drew (refCheck_any w h hn)
theorem same_on (h : SpOn w A n l) (h' : SpOn w A' n' m) (hn : n ≤ 1000000001) (hn' : n' ≤ 1000000001) : Calls Tryd.prog 31 #[.slice A n c, .slice A' n' c'] w (Tells w (.bool (decide (l = m)))) := tells_drew (same_any w h h' hn hn')
theorem same_yes (h : SpOn w A n l) (h' : SpOn w A' n' m) (hn : n ≤ 1000000001) (e : l = m) : Calls Tryd.prog 31 #[.slice A n c, .slice A' n' c'] w (Tells w (.bool true)) := by
  subst e
  have hn' : n' ≤ 1000000001 := by rw [h'.len, ← h.len]; exact hn
  have := same_on (c := c) (c' := c') h h' hn hn'
  rwa [decide_eq_true rfl] at this
theorem refSame_on (h : SpOn w A n l) (h' : SpOn w A' n' m) (hn : n ≤ 1000000001) (hn' : n' ≤ 1000000001) : Calls Tryd.prog 32 #[.slice A n c, .slice A' n' c'] w (Tells w (.bool (decide (l = m)))) := tells_drew (refSame_any w h h' hn hn')
theorem refSame_yes (h : SpOn w A n l) (h' : SpOn w A' n' m) (hn : n ≤ 1000000001) (e : l = m) : Calls Tryd.prog 32 #[.slice A n c, .slice A' n' c'] w (Tells w (.bool true)) := by
  subst e
  have hn' : n' ≤ 1000000001 := by rw [h'.len, ← h.len]; exact hn
  have := refSame_on (c := c) (c' := c') h h' hn hn'
  rwa [decide_eq_true rfl] at this
theorem has_on (p : Int) (h : SpOn w A n l) (hn : n ≤ 1000000001) : Calls Tryd.prog 40 #[.slice A n c, .int .i64 p] w (Tells w (.bool (has l p))) := has_any p w h (Nat.le_refl _) hn
theorem refHas_on (p : Int) (h : SpOn w A n l) (hn : n ≤ 1000000001) (hs : isSet (-1) l = true) : Calls Tryd.prog 41 #[.slice A n c, .int .i64 p] w (Tells w (.bool (has l p))) := by
  have := tells_same (refHas_any (c := c) p w h hn)
  have e : (has l p && (decide (0 ≤ p) && decide (p < 1000000000))) = has l p := by
    cases hh : has l p with
    | false => rfl
    | true => have := has_range hs hh; simp; omega
  rwa [e] at this
end
/-- The chapter's examples. -/
theorem of_example : ofS [((5 : Int), (9 : Int)), (1, 5)] = [(1, 9)] := by
  refine (is_nf (by decide) fun p _ _ => ?_).symm
  rw [Bool.eq_iff_iff]; simp [has]; omega
theorem not_example : notS [((1 : Int), (9 : Int))] = [(0, 1), (9, 1000000000)] := by
  refine (is_nf (by decide) fun p _ _ => ?_).symm
  rw [Bool.eq_iff_iff]; simp [has, kept]; omega
theorem meet_example : meetS [((1 : Int), (9 : Int))] [(8, 12)] = [(8, 9)] := by
  refine (is_nf (by decide) fun p _ _ => ?_).symm
  rw [Bool.eq_iff_iff]; simp [has, kept]; omega
theorem eq_self (a b : Int) (w : World) : (Op.equalIn 10000 34 (.agg #[.int .i64 a, .int .i64 b]) (.agg #[.int .i64 a, .int .i64 b])).run Tryd.prog w = .ok true w := by
  rw [eq_span]; simp [same2]
theorem spOn_two (w : World) (x y z t : Int) (g : Nat) (hg : g = w.heap.size) : SpOn (w.alloc (.cells #[.int .i64 x, .int .i64 y, .int .i64 z, .int .i64 t] 34)) (some ⟨g, 0, none⟩) 2 [(x, y), (z, t)] := by
  subst hg
  have h := Reads.newL w 34 #[.int .i64 x, .int .i64 y, .int .i64 z, .int .i64 t]
  have h2 : Reads (w.alloc (.cells #[.int .i64 x, .int .i64 y, .int .i64 z, .int .i64 t] 34)) (w.heap.size + 1) 2 (some ⟨w.heap.size, 0, none⟩) 2 (scs [(x, y), (z, t)]) := ⟨rfl, fun _ => h.2 (by simp)⟩
  exact (spIn_of_reads h2).more (by simp)
theorem spOn_one (w : World) (x y : Int) (g : Nat) (hg : g = w.heap.size) : SpOn (w.alloc (.cells #[.int .i64 x, .int .i64 y] 34)) (some ⟨g, 0, none⟩) 1 [(x, y)] :=
  (spIn_of_reads (reads_one w x y g hg)).more (by simp [hg])
end Go.Proofs.YtgmkagddfbfolaaDoor.Span
