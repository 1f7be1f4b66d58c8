/-
  The contracts of layer 6 in one form: slices that read so in the world at hand; what was made stays. And the chapter's examples (awake). No condition beyond each contract's own.
-/
import Derived.Test.YtcgcgjcjgpcfiaaGreatDoorSpanDo
import Derived.Test.YtcgcgjcjgpcfiaaGreatDoorSpanCount
import Derived.Test.YtcgcgjcjgpcfiaaGreatDoorSpanEnds
import Derived.Test.YtcgcgjcjgpcfiaaGreatDoorSpanRefCheck
namespace Go.Proofs.YtcgcgjcjgpcfiaaGreatDoor.Span
open Go Go.RowKit Go.Lib
set_option linter.unusedVariables false
/-- A slice that reads as spans in the world at hand. -/
def SpOn (w : World) (A : Option Addr) (n : Nat) (l : List S) : Prop := SpIn w w.heap.size A n l
theorem SpOn.on {w w' : World} {A : Option Addr} {n : Nat} {l : List S} (h : SpOn w A n l) (hb : Below w.heap.size w w') : SpOn w' A n l := (SpIn.below h hb).more hb.size
theorem spOn_of {w : World} {A : Option Addr} {n : Nat} {l : List S} (h : RowOf (liePair (lieInt .i64) (lieInt .i64)) w w.heap.size A n l) : SpOn w A n l :=
  ⟨h.1, fun hn => by
    obtain ⟨ad, hA, hB, hc⟩ := h.2 hn
    refine ⟨ad, hA, hB, fun i p hp => ?_⟩
    obtain ⟨cs, h1, c1, c2, e, ⟨e1, _⟩, ⟨e2, _⟩⟩ := hc i p hp
    subst e e1 e2
    have x0 := h1 0 (by simp)
    have x1 := h1 1 (by simp)
    rw [add_of_add] at x0 x1
    rw [← add_field]
    exact ⟨by simpa [liePair, lieInt] using x0, by simpa [liePair, lieInt] using x1⟩⟩
section
variable {A A' : Option Addr} {n c n' c' : Nat} {l m : List S} {w : World}
theorem SpOn.len (h : SpOn w A n l) : n = l.length := h.1.symm
theorem SpOn.le (h : SpOn w A n l) (hs : isSet (-1) l = true) : n ≤ 1000000001 := by rw [h.len]; exact len_le hs
theorem quiet_b {w : World} (k : Nat) : Below w.heap.size w (w.drewN k) := below_drewN (Below.refl _ _) k
def Makes (w : World) (L : List S) (e : Ending) (w' : World) : Prop := ∃ A n c, e = .returned (.slice A n c) ∧ SpOn w' A n L ∧ Below w.heap.size w w'
def Tells (w : World) (v : Value) (e : Ending) (w' : World) : Prop := e = .returned v ∧ Below w.heap.size w w'
theorem makes_of {f : FuncId} {args : Array Value} {B : Nat} {L : List S} (h : Calls Tryz.prog f args w fun e w' => ∃ A n c, e = .returned (.slice A n c) ∧ NewS w' B A n c L ∧ Below w.heap.size w w') :
    Calls Tryz.prog f args w (Makes w L) := h.mono fun _ _ ⟨A, n, c, he, hN, hb⟩ => ⟨A, n, c, he, hN.2.2.2, hb⟩
theorem makes_of' {f : FuncId} {args : Array Value} {L : List S} (h : Calls Tryz.prog f args w fun e w' => ∃ A n c, e = .returned (.slice A n c) ∧ SpIn w' w'.heap.size A n L ∧ Below w.heap.size w w') :
    Calls Tryz.prog f args w (Makes w L) := h
theorem tells_same {f : FuncId} {args : Array Value} {v : Value} (h : Calls Tryz.prog f args w fun e w' => e = .returned v ∧ w = w') : Calls Tryz.prog f args w (Tells w v) :=
  h.mono fun _ _ ⟨he, hw⟩ => ⟨he, by subst hw; exact Below.refl _ _⟩
theorem tells_drew {f : FuncId} {args : Array Value} {v : Value} (h : Calls Tryz.prog f args w fun e w' => e = .returned v ∧ ∃ k, w' = w.drewN k) : Calls Tryz.prog f args w (Tells w v) :=
  h.mono fun _ _ ⟨he, k, hw⟩ => ⟨he, by subst hw; exact quiet_b k⟩
theorem of_on (h : SpOn w A n l) (hn : n ≤ 1000000) : Calls Tryz.prog 19 #[.slice A n c] w (Makes w (ofS l)) := makes_of (of_any w h (Nat.le_refl _) hn)
theorem refOf_on (h : SpOn w A n l) (hn : n ≤ 1000) : Calls Tryz.prog 23 #[.slice A n c] w (Makes w (ofS l)) := makes_of (refOf_any w h (Nat.le_refl _) hn)
theorem union_on (h : SpOn w A n l) (h' : SpOn w A' n' m) (hs : isSet (-1) l = true) (hs' : isSet (-1) m = true) : Calls Tryz.prog 31 #[.slice A n c, .slice A' n' c'] w (Makes w (unionS l m)) :=
  makes_of (union_any w h h' (Nat.le_refl _) (Nat.le_refl _) hs hs')
theorem meet_on (h : SpOn w A n l) (h' : SpOn w A' n' m) (hs : isSet (-1) l = true) (hs' : isSet (-1) m = true) : Calls Tryz.prog 30 #[.slice A n c, .slice A' n' c'] w (Makes w (meetS l m)) :=
  makes_of (meet_any w h h' (Nat.le_refl _) (Nat.le_refl _) hs hs')
theorem refUnion_on (h : SpOn w A n l) (h' : SpOn w A' n' m) (hn : n ≤ 1000) (hn' : n' ≤ 1000) : Calls Tryz.prog 14 #[.slice A n c, .slice A' n' c'] w (Makes w (unionS l m)) :=
  makes_of (refUnion_any w h h' (Nat.le_refl _) (Nat.le_refl _) hn hn')
theorem refMeet_on (h : SpOn w A n l) (h' : SpOn w A' n' m) (hn : n ≤ 1000) (hn' : n' ≤ 1000) : Calls Tryz.prog 34 #[.slice A n c, .slice A' n' c'] w (Makes w (meetS l m)) :=
  makes_of (refMeet_any w h h' (Nat.le_refl _) (Nat.le_refl _) hn hn')
theorem check_on (h : SpOn w A n l) (hn : n ≤ 1000000001) : Calls Tryz.prog 24 #[.slice A n c] w (Tells w (.bool (isSet (-1) l))) := check_any w h (Nat.le_refl _) hn
theorem check_yes (h : SpOn w A n l) (hs : isSet (-1) l = true) : Calls Tryz.prog 24 #[.slice A n c] w (Tells w (.bool true)) := by
  have := check_on (c := c) h (h.le hs); rwa [hs] at this
theorem same_on (h : SpOn w A n l) (h' : SpOn w A' n' m) (hn : n ≤ 1000000001) (hn' : n' ≤ 1000000001) : Calls Tryz.prog 25 #[.slice A n c, .slice A' n' c'] w (Tells w (.bool (decide (l = m)))) := tells_drew (same_any w h h' hn hn')
theorem same_yes (h : SpOn w A n l) (h' : SpOn w A' n' m) (hn : n ≤ 1000000001) (e : l = m) : Calls Tryz.prog 25 #[.slice A n c, .slice A' n' c'] w (Tells w (.bool true)) := by
  subst e
  have hn' : n' ≤ 1000000001 := by rw [h'.len, ← h.len]; exact hn
  have := same_on (c := c) (c' := c') h h' hn hn'
  rwa [decide_eq_true rfl] at this
theorem refSame_on (h : SpOn w A n l) (h' : SpOn w A' n' m) (hn : n ≤ 1000000001) (hn' : n' ≤ 1000000001) : Calls Tryz.prog 9 #[.slice A n c, .slice A' n' c'] w (Tells w (.bool (decide (l = m)))) := tells_drew (refSame_any w h h' hn hn')
theorem refSame_yes (h : SpOn w A n l) (h' : SpOn w A' n' m) (hn : n ≤ 1000000001) (e : l = m) : Calls Tryz.prog 9 #[.slice A n c, .slice A' n' c'] w (Tells w (.bool true)) := by
  subst e
  have hn' : n' ≤ 1000000001 := by rw [h'.len, ← h.len]; exact hn
  have := refSame_on (c := c) (c' := c') h h' hn hn'
  rwa [decide_eq_true rfl] at this
theorem refHas_on (p : Int) (h : SpOn w A n l) (hn : n ≤ 1000000001) (hs : isSet (-1) l = true) : Calls Tryz.prog 59 #[.slice A n c, .int .i64 p] w (Tells w (.bool (has l p))) := by
  have := tells_same (refHas_any (c := c) p w h hn)
  have e : (has l p && (decide (0 ≤ p) && decide (p < 1000000000))) = has l p := by
    cases hh : has l p with
    | false => rfl
    | true => have := has_range hs hh; simp; omega
  rwa [e] at this
end
/-- The chapter's examples. -/
theorem of_example : ofS [((5 : Int), (9 : Int)), (1, 5)] = [(1, 9)] := by
  refine (is_nf (by decide) fun p _ _ => ?_).symm
  rw [Bool.eq_iff_iff]; simp [has]; omega
theorem not_example : notS [((1 : Int), (9 : Int))] = [(0, 1), (9, 1000000000)] := by
  refine (is_nf (by decide) fun p _ _ => ?_).symm
  rw [Bool.eq_iff_iff]; simp [has, kept]; omega
theorem meet_example : meetS [((1 : Int), (9 : Int))] [(8, 12)] = [(8, 9)] := by
  refine (is_nf (by decide) fun p _ _ => ?_).symm
  rw [Bool.eq_iff_iff]; simp [has, kept]; omega
theorem eq_self (a b : Int) (w : World) : (Op.equalIn 10000 42 (.agg #[.int .i64 a, .int .i64 b]) (.agg #[.int .i64 a, .int .i64 b])).run Tryz.prog w = .ok true w := by
  rw [eq_span]; simp [same2]
theorem spOn_two (w : World) (x y z t : Int) (g : Nat) (hg : g = w.heap.size) : SpOn (w.alloc (.cells #[.int .i64 x, .int .i64 y, .int .i64 z, .int .i64 t] 42)) (some ⟨g, 0, none⟩) 2 [(x, y), (z, t)] := by
  subst hg
  have h := Reads.newL w 42 #[.int .i64 x, .int .i64 y, .int .i64 z, .int .i64 t]
  have h2 : Reads (w.alloc (.cells #[.int .i64 x, .int .i64 y, .int .i64 z, .int .i64 t] 42)) (w.heap.size + 1) 2 (some ⟨w.heap.size, 0, none⟩) 2 (scs [(x, y), (z, t)]) := ⟨rfl, fun _ => h.2 (by simp)⟩
  exact (spIn_of_reads h2).more (by simp)
theorem spOn_one (w : World) (x y : Int) (g : Nat) (hg : g = w.heap.size) : SpOn (w.alloc (.cells #[.int .i64 x, .int .i64 y] 42)) (some ⟨g, 0, none⟩) 1 [(x, y)] :=
  (spIn_of_reads (reads_one w x y g hg)).more (by simp [hg])
theorem alloc_b {w : World} (o : Obj) : Below w.heap.size w (w.alloc o) := (Below.refl _ _).alloc (Nat.le_refl _) o
end Go.Proofs.YtcgcgjcjgpcfiaaGreatDoor.Span
