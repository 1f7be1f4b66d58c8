/-
  Some texts of this claim, one behind the other: ProofBack. What each proves, and its condition, stands at its head.
-/
import Derived.Test.YtdmejcfnolhplaaGreatZB36
import Derived.RangeFuncNested
import Derived.RangeFuncBound
import Derived.RangeFuncCalls
import Derived.RangeFuncLeaves
import Derived.RangeFuncBox
import Derived.Shelf.Abstract
import Derived.Shelf.RegionOpen
import Derived.OwnWalkIn
import Derived.TacticsInMore
import Derived.LoopNIn
import Derived.LoopIn
import Derived.Maps.AppendAt
/-
  The library's iterator Backward, at steps: from the last one to the first one, in this order. Condition: the slice reads as steps.
-/
namespace Go.Proofs.YtdmejcfnolhplaaGreat.Proof
open Go Go.RowKit Go.Lib
set_option linter.unusedVariables false
attribute [local go_sem] Oper.semAt_some
abbrev Ip (l : List Sp) := {x : Nat × Sp // l[x.1]? = some x.2}
def encPf {l : List Sp} (x : Ip l) : Array Value := #[.int .i64 (x.1.1 : Int), .agg #[.int .i64 x.1.2.kind, .string x.1.2.name, .int .i64 x.1.2.ver, .string x.1.2.dest, .int .i64 x.1.2.a, .int .i64 x.1.2.b]]
def OrdP (l : List Sp) (ys : List (Ip l)) : Prop := ys.map (fun x => x.1.1) = (List.range ys.length).map (fun k => l.length - 1 - k)
theorem ord_nil (l : List Sp) : OrdP l [] := rfl
theorem ord_snoc {l : List Sp} {ys : List (Ip l)} {x : Ip l} : OrdP l (ys ++ [x]) ↔ OrdP l ys ∧ x.1.1 = l.length - 1 - ys.length := by
  unfold OrdP
  rw [List.map_append, List.length_append, List.length_singleton, List.range_succ, List.map_append]
  constructor
  · intro h
    have := List.append_inj h (by simp)
    refine ⟨this.1, ?_⟩
    have h2 := this.2
    simp only [List.map_cons, List.map_nil, List.cons.injEq, and_true] at h2
    exact h2
  · rintro ⟨h1, h2⟩
    rw [h1]
    simp [h2]
def AllP (l : List Sp) (ys : List (Ip l)) : Prop := OrdP l ys ∧ ys.length = l.length
def KpP (n₀ Bn : Nat) (W W' : World) : Prop := Below n₀ W W' ∧ ∀ u, Boxed W Bn 24 u → Boxed W' Bn 24 u
theorem kpP_t {n₀ Bn : Nat} {A B C : World} (h : KpP n₀ Bn A B) (k : KpP n₀ Bn B C) : KpP n₀ Bn A C := ⟨h.1.trans k.1, fun u hu => k.2 u (h.2 u hu)⟩
theorem kpP_b {n₀ Bn : Nat} {w : World} (hn : n₀ ≤ w.heap.size) (hB : Bn < w.heap.size) (W : World) (l : Nat) (o o' : Obj) (hl : w.heap.size ≤ l) (h : W.heap[l]? = some o) (h1 : o.isCells = false) (h2 : o.isWalk = false) : KpP n₀ Bn W (W.putObj l o') :=
  ⟨belowK_b hn W l o o' hl h h1 h2, fun u hu => hu.kept (grownBy_putObj' W l o') (fun e => by injection e with e; omega)⟩
set_option maxRecDepth 100000 in
set_option maxHeartbeats 2000000 in
theorem backP_in (l0 n₀ Bn : Nat) (l : List Sp) (A : Option Addr) (n c : Nat) (hn : n ≤ 2000000) (J Jx : List (Ip l) → World → Prop) (m : Nat) (hm : 3 ≤ m)
    (W : World) (hJ : AbidesFrom W.heap.size J)
    (hY : ∀ pre x W, J pre W → pre.length < n → YieldAt Fence.wide (m - 1) Tryz.prog l0 (encPf x) W fun e W' =>
      (e = .returned (.bool true) ∧ J (pre ++ [x]) W' ∧ KpP n₀ Bn W W') ∨ (e = .returned (.bool false) ∧ Jx (pre ++ [x]) W'))
    (hBn : Boxed W Bn 24 (.slice A n c)) (h : PfIn W n₀ A n l) (h0 : J [] W) :
    CallsIn Fence.wide m Tryz.prog 93 #[.func (.yield l0) #[] #[], .pointer (some ⟨Bn, 0, none⟩)] W fun e W' => (∃ v, e = .returned v) ∧
      ((∃ ys : List (Ip l), AllP l ys ∧ J ys W') ∨ (∃ pre : List (Ip l), True ∧ Jx pre W')) := by
  have hlen := h.len
  have hc0 := hBn.cell
  have hw1 : IntKind.i64.wrap ((n : Int) - 1) = (n : Int) - 1 := by rw [IntKind.wrap_i64]; omega
  refine callsIn_of_wp Tryz.func93 rfl trivial ?_ rfl
  simp only [Tryz.ntmps93, List.size_toArray, List.length_cons, List.length_nil, Nat.reduceAdd, Nat.reduceSub, Array.replicate_succ, Array.replicate_zero, List.push_toArray, List.append_toArray, List.nil_append, List.cons_append]
  gi_wp2
  gi_loopw [3] (fun p wr => ∃ (z : Int) (k : Nat) (pre : List (Ip l)), p = .int .i64 z ∧ z = (k : Int) - 1 ∧ k ≤ n ∧ J pre wr ∧ Below n₀ W wr ∧ Boxed wr Bn 24 (.slice A n c) ∧ Hid (OrdP l pre) ∧ Hid (pre.length + k = l.length)) (fun p _ => (RowKit.intOf p + 1).toNat)
  case atStart => exact ⟨(n : Int) - 1, n, [], rfl, rfl, Nat.le_refl _, h0, Below.refl _ _, hBn, hide (ord_nil l), hide (by simp; omega)⟩
  case round =>
    obtain ⟨z, k, pre, rfl, hz, hk, hJr, hb, hBx, ho, hpl⟩ := hrel
    cases k with
    | zero =>
      have hzz : ¬ (0 : Int) ≤ z := by omega
      have he : AllP l pre := ⟨ho.out, by have := hpl.out; omega⟩
      clear hz ho hpl
      gi_wp2
      go_end0
      exact ⟨⟨_, rfl⟩, .inl ⟨pre, he, hJr⟩⟩
    | succ j =>
      have hj : j < n := by omega
      obtain ⟨ad, q, rfl, hbl, hx, c0, c1, c2, c3, c4, c5⟩ := PfIn.at_ (h.below hb) hj
      have hpn : pre.length < n := by have := hpl.out; omega
      obtain ⟨x, hxx⟩ : ∃ x : Ip l, x = ⟨(j, q), hx⟩ := ⟨_, rfl⟩
      have henc : encPf x = #[.int .i64 (j : Int), .agg #[.int .i64 q.kind, .string q.name, .int .i64 q.ver, .string q.dest, .int .i64 q.a, .int .i64 q.b]] := by rw [hxx]; rfl
      have hord := hide (show OrdP l (pre ++ [x]) from ord_snoc.2 ⟨ho.out, by rw [hxx]; have := hpl.out; show j = _; omega⟩)
      have hpl2 := hide (show (pre ++ [x]).length + j = l.length by rw [List.length_append, List.length_singleton]; have := hpl.out; omega)
      obtain ⟨kd, nm, v, d, a, b⟩ := q
      simp only [] at c0 c1 c2 c3 c4 c5 henc
      obtain rfl : z = (j : Int) := by omega
      obtain ⟨fn, tmps, assign, body, hy, hR⟩ := hY pre x wr hJr hpn
      have hbc := hBx.cell
      have hw2 : IntKind.i64.wrap ((j : Int) - 1) = (j : Int) - 1 := by rw [IntKind.wrap_i64]; omega
      have hz0 : (0 : Int) ≤ (j : Int) := by omega
      have hj2 : (j : Int) < (n : Int) := by omega
      rw [henc] at hy
      clear hz ho hpl hx hxx hc0 henc
      gi_wp2
      refine ⟨fun _ => by omega, hR.mono ?_⟩
      rintro e W3 (⟨rfl, hJ3, hk3⟩ | ⟨rfl, hJx3⟩)
      · gi_wp2
        go_roundw
        case rel => exact ⟨(j : Int) - 1, j, pre ++ [x], by go_num, rfl, by omega, hJ3, hb.trans hk3.1, hk3.2 _ hBx, hord, hpl2⟩
        case measure => simp [RowKit.intOf]
      · gi_wp2
        refine bodyPost_ret (results_none rfl _ _ _) rfl ?_
        exact ⟨⟨_, rfl⟩, .inr ⟨pre ++ [x], trivial, hJx3⟩⟩
theorem backP_stops (l : List Sp) (A : Option Addr) (n c n₀ Bn m : Nat) (hn : n ≤ 2000000) (hm : 3 ≤ m) (w : World) (h : PfIn w n₀ A n l) (h0 : n₀ ≤ w.heap.size) (hB : Boxed w Bn 24 (.slice A n c)) :
    SeqStopsK Fence.wide m Tryz.prog 93 #[.pointer (some ⟨Bn, 0, none⟩)] encPf (KpP n₀ Bn) (AllP l) (fun _ => True) n w := fun l0 J Jx W hW hJ _ hY hJ0 =>
  backP_in l0 n₀ Bn l A n c hn J Jx m hm W hJ hY ((hW.block Bn hB.lt).trans hB) (h.below (hW.mono h0)) hJ0
theorem backP_any (A : Option Addr) (n c : Nat) (w : World) :
    Calls Tryz.prog 62 #[.slice A n c] w fun e w' => e = .returned (.func (.func 93) #[] #[.pointer (some ⟨w.heap.size, 0, none⟩)]) ∧ w' = w.alloc (.cells #[.slice A n c] 24) := by
  go_enter Tryz.func62, Tryz.ntmps62
  go_wp2
  go_ret
  exact ⟨rfl, rfl⟩
end Go.Proofs.YtdmejcfnolhplaaGreat.Proof
