/-
  Some texts of this claim, one behind the other: ManiBack. What each proves, and its condition, stands at its head.
-/
import Derived.Test.YtmoeilkaadnnoaaGreatZ21
import Derived.RangeFuncNested
import Derived.RangeFuncBound
import Derived.RangeFuncCalls
import Derived.RangeFuncLeaves
import Derived.RangeFuncBox
import Derived.Shelf.Abstract
import Derived.Shelf.RegionOpen
import Derived.OwnWalkIn
import Derived.TacticsInMore
import Derived.LoopNIn
import Derived.LoopIn
import Derived.Maps.AppendAt
/-
  The library's iterator Backward, at releases: from the last one to the first one. Condition: the slice reads as releases.
-/
namespace Go.Proofs.YtmoeilkaadnnoaaGreat.Mani
open Go Go.RowKit Go.Lib Go.Proofs.YtmoeilkaadnnoaaGreat.Span Go.Proofs.YtmoeilkaadnnoaaGreat.Need
set_option linter.unusedVariables false
attribute [local go_sem] Oper.semAt_some
/-- What a round is told: a place, a version, the slice of needs. -/
abbrev It := Nat × Int × Option Addr × Nat × Nat
def encI (x : It) : Array Value := #[.int .i64 (x.1 : Int), .agg #[.int .i64 x.2.1, .slice x.2.2.1 x.2.2.2.1 x.2.2.2.2]]
def verI (x : It) : Int := x.2.1
/-- All have come. -/
def AllI (l : List Rl) (ys : List It) : Prop := ys.map verI = (l.map Prod.fst).reverse
/-- What a round keeps: what lay below, and a box. -/
def KpI (n₀ Bn : Nat) (W W' : World) : Prop := Below n₀ W W' ∧ ∀ u, Boxed W Bn 75 u → Boxed W' Bn 75 u
theorem kpI_t {n₀ Bn : Nat} {A B C : World} (h : KpI n₀ Bn A B) (k : KpI n₀ Bn B C) : KpI n₀ Bn A C := ⟨h.1.trans k.1, fun u hu => k.2 u (h.2 u hu)⟩
theorem kpI_b {n₀ Bn : Nat} {w : World} (hn : n₀ ≤ w.heap.size) (hB : Bn < w.heap.size) (W : World) (l : Nat) (o o' : Obj) (hl : w.heap.size ≤ l) (h : W.heap[l]? = some o) (h1 : o.isCells = false) (h2 : o.isWalk = false) : KpI n₀ Bn W (W.putObj l o') :=
  ⟨belowK_b hn W l o o' hl h h1 h2, fun u hu => hu.kept (grownBy_putObj' W l o') (fun e => by injection e with e; omega)⟩
theorem rev_step {l : List Rl} {j : Nat} {q : Rl} {ys : List Int} (hq : l[j]? = some q) (h : ys ++ ((l.take (j + 1)).map Prod.fst).reverse = (l.map Prod.fst).reverse) : (ys ++ [q.1]) ++ ((l.take j).map Prod.fst).reverse = (l.map Prod.fst).reverse := by
  rw [← h, take_snoc' l j q hq]
  simp
set_option maxRecDepth 100000 in
set_option maxHeartbeats 2000000 in
theorem back1_in (l0 n₀ Bn : Nat) (l : List Rl) (A : Option Addr) (n c : Nat) (hn : n ≤ 1000) (J Jx : List It → World → Prop) (m : Nat) (hm : 3 ≤ m)
    (W : World) (hJ : AbidesFrom W.heap.size J)
    (hY : ∀ pre x W, J pre W → pre.length < n → YieldAt Fence.wide (m - 1) Tryz.prog l0 (encI x) W fun e W' =>
      (e = .returned (.bool true) ∧ J (pre ++ [x]) W' ∧ KpI n₀ Bn W W') ∨ (e = .returned (.bool false) ∧ Jx (pre ++ [x]) W'))
    (hBn : Boxed W Bn 75 (.slice A n c)) (h : RlIn W n₀ A n l) (h0 : J [] W) :
    CallsIn Fence.wide m Tryz.prog 127 #[.func (.yield l0) #[] #[], .pointer (some ⟨Bn, 0, none⟩)] W fun e W' => (∃ v, e = .returned v) ∧
      ((∃ ys : List It, AllI l ys ∧ J ys W') ∨ (∃ pre : List It, True ∧ Jx pre W')) := by
  have hlen := h.len
  have hc0 := hBn.cell
  have hw1 : IntKind.i64.wrap ((n : Int) - 1) = (n : Int) - 1 := by rw [IntKind.wrap_i64]; omega
  refine callsIn_of_wp Tryz.func127 rfl trivial ?_ rfl
  simp only [Tryz.ntmps127, List.size_toArray, List.length_cons, List.length_nil, Nat.reduceAdd, Nat.reduceSub, Array.replicate_succ, Array.replicate_zero, List.push_toArray, List.append_toArray, List.nil_append, List.cons_append]
  gi_wp2
  gi_loopw [3] (fun p wr => ∃ (z : Int) (k : Nat) (pre : List It), p = .int .i64 z ∧ z = (k : Int) - 1 ∧ k ≤ n ∧ J pre wr ∧ Below n₀ W wr ∧ Boxed wr Bn 75 (.slice A n c) ∧ Hid (pre.map verI ++ ((l.take k).map Prod.fst).reverse = (l.map Prod.fst).reverse)) (fun p _ => (RowKit.intOf p + 1).toNat)
  case atStart => exact ⟨(n : Int) - 1, n, [], rfl, rfl, Nat.le_refl _, h0, Below.refl _ _, hBn, hide (by rw [List.take_of_length_le (by omega)]; rfl)⟩
  case round =>
    obtain ⟨z, k, pre, rfl, hz, hk, hJr, hb, hBx, hp⟩ := hrel
    cases k with
    | zero =>
      have hzz : ¬ (0 : Int) ≤ z := by omega
      have he : AllI l pre := by have := hp.out; simpa [AllI] using this
      clear hz hp
      gi_wp2
      go_end0
      exact ⟨⟨_, rfl⟩, .inl ⟨pre, he, hJr⟩⟩
    | succ j =>
      have hj : j < n := by omega
      obtain ⟨ad, q, A', n', c', rfl, hbl, hx, hs, c1, c2⟩ := RlIn.at_ (h.below hb) hj
      have hpl : pre.length < n := by
        have e := congrArg List.length hp.out
        simp only [List.length_append, List.length_map, List.length_reverse, List.length_take] at e
        omega
      obtain ⟨y, s⟩ := q
      simp only [] at c1 c2
      have hnx := hide (rev_step hx hp.out)
      obtain rfl : z = (j : Int) := by omega
      obtain ⟨x, hxx⟩ : ∃ x : It, x = (j, y, A', n', c') := ⟨_, rfl⟩
      have henc : encI x = #[.int .i64 (j : Int), .agg #[.int .i64 y, .slice A' n' c']] := by rw [hxx]; rfl
      have hver : verI x = y := by rw [hxx]; rfl
      obtain ⟨fn, tmps, assign, body, hy, hR⟩ := hY pre x wr hJr hpl
      have hbc := hBx.cell
      have hw2 : IntKind.i64.wrap ((j : Int) - 1) = (j : Int) - 1 := by rw [IntKind.wrap_i64]; omega
      have hz0 : (0 : Int) ≤ (j : Int) := by omega
      rw [henc] at hy
      clear hz hp hx hs hxx hc0
      gi_wp2
      refine ⟨fun _ => by omega, hR.mono ?_⟩
      rintro e W3 (⟨rfl, hJ3, hk3⟩ | ⟨rfl, hJx3⟩)
      · gi_wp2
        go_roundw
        case rel => exact ⟨(j : Int) - 1, j, pre ++ [x], by go_num, rfl, by omega, hJ3, hb.trans hk3.1, hk3.2 _ hBx, hide (by rw [List.map_append, List.map_cons, List.map_nil, hver]; exact hnx.out)⟩
        case measure => simp [RowKit.intOf]
      · gi_wp2
        refine bodyPost_ret (results_none rfl _ _ _) rfl ?_
        exact ⟨⟨_, rfl⟩, .inr ⟨pre ++ [x], trivial, hJx3⟩⟩
theorem back_stops (l : List Rl) (A : Option Addr) (n c n₀ Bn m : Nat) (hn : n ≤ 1000) (hm : 3 ≤ m) (w : World) (h : RlIn w n₀ A n l) (h0 : n₀ ≤ w.heap.size) (hB : Boxed w Bn 75 (.slice A n c)) :
    SeqStopsK Fence.wide m Tryz.prog 127 #[.pointer (some ⟨Bn, 0, none⟩)] encI (KpI n₀ Bn) (AllI l) (fun _ => True) n w := fun l0 J Jx W hW hJ _ hY hJ0 =>
  back1_in l0 n₀ Bn l A n c hn J Jx m hm W hJ hY ((hW.block Bn hB.lt).trans hB) (h.below (hW.mono h0)) hJ0
theorem back_any (A : Option Addr) (n c : Nat) (w : World) :
    Calls Tryz.prog 101 #[.slice A n c] w fun e w' => e = .returned (.func (.func 127) #[] #[.pointer (some ⟨w.heap.size, 0, none⟩)]) ∧ w' = w.alloc (.cells #[.slice A n c] 75) := by
  go_enter Tryz.func101, Tryz.ntmps101
  go_wp2
  go_ret
  exact ⟨rfl, rfl⟩
end Go.Proofs.YtmoeilkaadnnoaaGreat.Mani
