/-
  The contracts of layer 6 in one form: slices that read so in the world at hand; what was made stays. And the chapter's examples (awake). No condition beyond each contract's own.
-/
import Derived.Test.YtbkbamidkofajaaSpanDo
import Derived.Test.YtbkbamidkofajaaSpanCount
import Derived.Test.YtbkbamidkofajaaSpanEnds
import Derived.Test.YtbkbamidkofajaaSpanRefCheck
namespace Go.Proofs.Ytbkbamidkofajaa.Span
open Go Go.RowKit Go.Lib
set_option linter.unusedVariables false
/-- A slice that reads as spans in the world at hand. -/
def SpOn (w : World) (A : Option Addr) (n : Nat) (l : List S) : Prop := SpIn w w.heap.size A n l
theorem SpOn.on {w w' : World} {A : Option Addr} {n : Nat} {l : List S} (h : SpOn w A n l) (hb : Below w.heap.size w w') : SpOn w' A n l := (SpIn.below h hb).more hb.size
theorem spOn_of {w : World} {A : Option Addr} {n : Nat} {l : List S} (h : RowOf (liePair (lieInt .i64) (lieInt .i64)) w w.heap.size A n l) : SpOn w A n l :=
  ⟨h.1, fun hn => by
    obtain ⟨ad, hA, hB, hc⟩ := h.2 hn
    refine ⟨ad, hA, hB, fun i p hp => ?_⟩
    obtain ⟨cs, h1, c1, c2, e, ⟨e1, _⟩, ⟨e2, _⟩⟩ := hc i p hp
    subst e e1 e2
    have x0 := h1 0 (by simp)
    have x1 := h1 1 (by simp)
    rw [add_of_add] at x0 x1
    rw [← add_field]
    exact ⟨by simpa [liePair, lieInt] using x0, by simpa [liePair, lieInt] using x1⟩⟩
section
variable {A A' : Option Addr} {n c n' c' : Nat} {l m : List S} {w : World}
theorem SpOn.len (h : SpOn w A n l) : n = l.length := h.1.symm
theorem SpOn.le (h : SpOn w A n l) (hs : isSet (-1) l = true) : n ≤ 1000000001 := by rw [h.len]; exact len_le hs
theorem quiet_b {w : World} (k : Nat) : Below w.heap.size w (w.drewN k) := below_drewN (Below.refl _ _) k
def Makes (w : World) (L : List S) (e : Ending) (w' : World) : Prop := ∃ A n c, e = .returned (.slice A n c) ∧ SpOn w' A n L ∧ Below w.heap.size w w'
def Tells (w : World) (v : Value) (e : Ending) (w' : World) : Prop := e = .returned v ∧ Below w.heap.size w w'
theorem makes_of {f : FuncId} {args : Array Value} {B : Nat} {L : List S} (h : Calls Try.prog f args w fun e w' => ∃ A n c, e = .returned (.slice A n c) ∧ NewS w' B A n c L ∧ Below w.heap.size w w') :
    Calls Try.prog f args w (Makes w L) := h.mono fun _ _ ⟨A, n, c, he, hN, hb⟩ => ⟨A, n, c, he, hN.2.2.2, hb⟩
theorem makes_of' {f : FuncId} {args : Array Value} {L : List S} (h : Calls Try.prog f args w fun e w' => ∃ A n c, e = .returned (.slice A n c) ∧ SpIn w' w'.heap.size A n L ∧ Below w.heap.size w w') :
    Calls Try.prog f args w (Makes w L) := h
theorem tells_same {f : FuncId} {args : Array Value} {v : Value} (h : Calls Try.prog f args w fun e w' => e = .returned v ∧ w = w') : Calls Try.prog f args w (Tells w v) :=
  h.mono fun _ _ ⟨he, hw⟩ => ⟨he, by subst hw; exact Below.refl _ _⟩
theorem tells_drew {f : FuncId} {args : Array Value} {v : Value} (h : Calls Try.prog f args w fun e w' => e = .returned v ∧ ∃ k, w' = w.drewN k) : Calls Try.prog f args w (Tells w v) :=
  h.mono fun _ _ ⟨he, k, hw⟩ => ⟨he, by subst hw; exact quiet_b k⟩
theorem of_on (h : SpOn w A n l) (hn : n ≤ 1000000) : Calls Try.prog 11 #[.slice A n c] w (Makes w (ofS l)) := makes_of (of_any w h (Nat.le_refl _) hn)
theorem refOf_on (h : SpOn w A n l) (hn : n ≤ 1000) : Calls Try.prog 12 #[.slice A n c] w (Makes w (ofS l)) := makes_of (refOf_any w h (Nat.le_refl _) hn)
theorem union_on (h : SpOn w A n l) (h' : SpOn w A' n' m) (hs : isSet (-1) l = true) (hs' : isSet (-1) m = true) : Calls Try.prog 22 #[.slice A n c, .slice A' n' c'] w (Makes w (unionS l m)) :=
  makes_of (union_any w h h' (Nat.le_refl _) (Nat.le_refl _) hs hs')
theorem meet_on (h : SpOn w A n l) (h' : SpOn w A' n' m) (hs : isSet (-1) l = true) (hs' : isSet (-1) m = true) : Calls Try.prog 24 #[.slice A n c, .slice A' n' c'] w (Makes w (meetS l m)) :=
  makes_of (meet_any w h h' (Nat.le_refl _) (Nat.le_refl _) hs hs')
theorem not_on (h : SpOn w A n l) (hs : isSet (-1) l = true) : Calls Try.prog 26 #[.slice A n c] w (Makes w (notS l)) :=
  makes_of (not_any w h (Nat.le_refl _) hs)
theorem refUnion_on (h : SpOn w A n l) (h' : SpOn w A' n' m) (hn : n ≤ 1000) (hn' : n' ≤ 1000) : Calls Try.prog 23 #[.slice A n c, .slice A' n' c'] w (Makes w (unionS l m)) :=
  makes_of (refUnion_any w h h' (Nat.le_refl _) (Nat.le_refl _) hn hn')
theorem refMeet_on (h : SpOn w A n l) (h' : SpOn w A' n' m) (hn : n ≤ 1000) (hn' : n' ≤ 1000) : Calls Try.prog 25 #[.slice A n c, .slice A' n' c'] w (Makes w (meetS l m)) :=
  makes_of (refMeet_any w h h' (Nat.le_refl _) (Nat.le_refl _) hn hn')
theorem refNot_on (h : SpOn w A n l) (hn : n ≤ 1000) : Calls Try.prog 27 #[.slice A n c] w (Makes w (notS l)) :=
  makes_of (refNot_any w h (Nat.le_refl _) hn)
theorem within_on (h : SpOn w A n l) (h' : SpOn w A' n' m) (hs : isSet (-1) l = true) (hs' : isSet (-1) m = true) : Calls Try.prog 28 #[.slice A n c, .slice A' n' c'] w (Tells w (.bool (decide (lessS l m = [])))) :=
  within_any w h h' (Nat.le_refl _) (Nat.le_refl _) hs hs'
theorem refWithin_on (h : SpOn w A n l) (h' : SpOn w A' n' m) (hn : n ≤ 1000) (hn' : n' ≤ 1000) (hs : isSet (-1) l = true) : Calls Try.prog 29 #[.slice A n c, .slice A' n' c'] w (Tells w (.bool (decide (lessS l m = [])))) :=
  refWithin_any w h h' (Nat.le_refl _) (Nat.le_refl _) hn hn' hs
theorem check_on (h : SpOn w A n l) (hn : n ≤ 1000000001) : Calls Try.prog 8 #[.slice A n c] w (Tells w (.bool (isSet (-1) l))) := check_any w h (Nat.le_refl _) hn
theorem check_yes (h : SpOn w A n l) (hs : isSet (-1) l = true) : Calls Try.prog 8 #[.slice A n c] w (Tells w (.bool true)) := by
  have := check_on (c := c) h (h.le hs); rwa [hs] at this
theorem refCheck_on (h : SpOn w A n l) (hn : n ≤ 1000000001) : Calls Try.prog 9 #[.slice A n c] w (Tells w (.bool (isSet (-1) l))) := tells_drew (refCheck_any w h hn)
theorem same_on (h : SpOn w A n l) (h' : SpOn w A' n' m) (hn : n ≤ 1000000001) (hn' : n' ≤ 1000000001) : Calls Try.prog 13 #[.slice A n c, .slice A' n' c'] w (Tells w (.bool (decide (l = m)))) := tells_drew (same_any w h h' hn hn')
theorem same_yes (h : SpOn w A n l) (h' : SpOn w A' n' m) (hn : n ≤ 1000000001) (e : l = m) : Calls Try.prog 13 #[.slice A n c, .slice A' n' c'] w (Tells w (.bool true)) := by
  subst e
  have hn' : n' ≤ 1000000001 := by rw [h'.len, ← h.len]; exact hn
  have := same_on (c := c) (c' := c') h h' hn hn'
  rwa [decide_eq_true rfl] at this
theorem refSame_on (h : SpOn w A n l) (h' : SpOn w A' n' m) (hn : n ≤ 1000000001) (hn' : n' ≤ 1000000001) : Calls Try.prog 10 #[.slice A n c, .slice A' n' c'] w (Tells w (.bool (decide (l = m)))) := tells_drew (refSame_any w h h' hn hn')
theorem refSame_yes (h : SpOn w A n l) (h' : SpOn w A' n' m) (hn : n ≤ 1000000001) (e : l = m) : Calls Try.prog 10 #[.slice A n c, .slice A' n' c'] w (Tells w (.bool true)) := by
  subst e
  have hn' : n' ≤ 1000000001 := by rw [h'.len, ← h.len]; exact hn
  have := refSame_on (c := c) (c' := c') h h' hn hn'
  rwa [decide_eq_true rfl] at this
theorem has_on (p : Int) (h : SpOn w A n l) (hn : n ≤ 1000000001) : Calls Try.prog 20 #[.slice A n c, .int .i64 p] w (Tells w (.bool (has l p))) := has_any p w h (Nat.le_refl _) hn
theorem refHas_on (p : Int) (h : SpOn w A n l) (hn : n ≤ 1000000001) (hs : isSet (-1) l = true) : Calls Try.prog 21 #[.slice A n c, .int .i64 p] w (Tells w (.bool (has l p))) := by
  have := tells_same (refHas_any (c := c) p w h hn)
  have e : (has l p && (decide (0 ≤ p) && decide (p < 1000000000))) = has l p := by
    cases hh : has l p with
    | false => rfl
    | true => have := has_range hs hh; simp; omega
  rwa [e] at this
theorem count_on (h : SpOn w A n l) (hs : isSet (-1) l = true) : Calls Try.prog 30 #[.slice A n c] w (Tells w (.int .i64 (count l))) := count_any w h (Nat.le_refl _) (h.le hs) hs
theorem refCount_on (h : SpOn w A n l) (hs : isSet (-1) l = true) : Calls Try.prog 31 #[.slice A n c] w (Tells w (.int .i64 (count l))) := refCount_any w h (Nat.le_refl _) (h.le hs) hs
end
/-- The chapter's examples. -/
theorem of_example : ofS [((5 : Int), (9 : Int)), (1, 5)] = [(1, 9)] := by
  refine (is_nf (by decide) fun p _ _ => ?_).symm
  rw [Bool.eq_iff_iff]; simp [has]; omega
theorem not_example : notS [((1 : Int), (9 : Int))] = [(0, 1), (9, 1000000000)] := by
  refine (is_nf (by decide) fun p _ _ => ?_).symm
  rw [Bool.eq_iff_iff]; simp [has, kept]; omega
theorem meet_example : meetS [((1 : Int), (9 : Int))] [(8, 12)] = [(8, 9)] := by
  refine (is_nf (by decide) fun p _ _ => ?_).symm
  rw [Bool.eq_iff_iff]; simp [has, kept]; omega
theorem eq_self (a b : Int) (w : World) : (Op.equalIn 10000 34 (.agg #[.int .i64 a, .int .i64 b]) (.agg #[.int .i64 a, .int .i64 b])).run Try.prog w = .ok true w := by
  rw [eq_span]; simp [same2]
theorem spOn_two (w : World) (x y z t : Int) (g : Nat) (hg : g = w.heap.size) : SpOn (w.alloc (.cells #[.int .i64 x, .int .i64 y, .int .i64 z, .int .i64 t] 34)) (some ⟨g, 0, none⟩) 2 [(x, y), (z, t)] := by
  subst hg
  have h := Reads.newL w 34 #[.int .i64 x, .int .i64 y, .int .i64 z, .int .i64 t]
  have h2 : Reads (w.alloc (.cells #[.int .i64 x, .int .i64 y, .int .i64 z, .int .i64 t] 34)) (w.heap.size + 1) 2 (some ⟨w.heap.size, 0, none⟩) 2 (scs [(x, y), (z, t)]) := ⟨rfl, fun _ => h.2 (by simp)⟩
  exact (spIn_of_reads h2).more (by simp)
theorem spOn_one (w : World) (x y : Int) (g : Nat) (hg : g = w.heap.size) : SpOn (w.alloc (.cells #[.int .i64 x, .int .i64 y] 34)) (some ⟨g, 0, none⟩) 1 [(x, y)] :=
  (spIn_of_reads (reads_one w x y g hg)).more (by simp [hg])
theorem alloc_b {w : World} (o : Obj) : Below w.heap.size w (w.alloc o) := (Below.refl _ _).alloc (Nat.le_refl _) o
set_option maxHeartbeats 1600000 in
set_option maxRecDepth 100000 in
theorem awake_any (w : World) : Calls Try.prog 7 #[] w (Tells w (.bool true)) := by
  have heq1 := eq_self 1 9
  have heq2 := eq_self 9 1000000000
  have heq3 := eq_self 8 9
  unfold Tells
  go_enter Try.func7, Try.ntmps7
  go_upto_region 4 with (first
    | (go_at_call 11
       refine (of_on (spOn_two w 5 9 1 5 _ rfl) (by omega)).mono ?_
       rintro e w1 ⟨A1, n1, c1, rfl, h1, hb1⟩
       rw [of_example] at h1
       have e1 : n1 = 1 := h1.len
       subst e1
       have hbw1 : Below w.heap.size w w1 := (alloc_b _).trans (hb1.mono (by simp)))
    | (go_at_call 26
       refine (not_on h1 (by decide)).mono ?_
       rintro e w2 ⟨A2, n2, c2, rfl, h2, hb2⟩
       rw [not_example] at h2
       have e2 : n2 = 2 := h2.len
       subst e2
       have hbw2 : Below w.heap.size w w2 := hbw1.trans (hb2.mono hbw1.size)
       have h1' := h1.on hb2)
    | (go_at_call 24
       refine (meet_on (h1'.on (alloc_b _)) (spOn_one w2 8 12 _ rfl) (by decide) (by decide)).mono ?_
       rintro e w3 ⟨A3, n3, c3, rfl, h3, hb3⟩
       rw [meet_example] at h3
       have e3 : n3 = 1 := h3.len
       subst e3
       have hbx := (alloc_b (w := w2) _).trans (hb3.mono (by simp))
       have hbw3 : Below w.heap.size w w3 := hbw2.trans (hbx.mono hbw2.size)
       have k1 := h1'.on hbx
       have k2 := h2.on hbx))
  obtain ⟨a1, s1, rfl, _, hs1, p1, q1⟩ := SpIn.at_ k1 (k := 0) (by omega)
  obtain ⟨a2, s2, rfl, _, hs2, p2, q2⟩ := SpIn.at_ k2 (k := 1) (by omega)
  obtain ⟨a3, s3, rfl, _, hs3, p3, q3⟩ := SpIn.at_ h3 (k := 0) (by omega)
  injection hs1 with hs1
  injection hs2 with hs2
  injection hs3 with hs3
  subst hs1 hs2 hs3
  rw [Nat.zero_mul, add_zero'] at p1 q1 p3 q3
  have ha2 : a2.add (1 * 2) = ⟨a2.block, a2.off + 2, none⟩ := by simp [Addr.add]
  rw [ha2] at p2 q2
  clear ha2
  clear hb1 hb2 hb3 h1 h2 h1' h3 hbx k1 k2 hbw1 hbw2
  go_wp2
  go_ret
  exact ⟨rfl, hbw3⟩
end Go.Proofs.Ytbkbamidkofajaa.Span
