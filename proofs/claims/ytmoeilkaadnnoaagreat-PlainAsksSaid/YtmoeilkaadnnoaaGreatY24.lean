/-
  Some texts of this claim, one behind the other: ManiBack, RangeTold. What each proves, and its condition, stands at its head.
-/
import Derived.Test.YtmoeilkaadnnoaaGreatY21
import Derived.RangeFuncNested
import Derived.RangeFuncBound
import Derived.RangeFuncCalls
import Derived.RangeFuncLeaves
import Derived.RangeFuncBox
import Derived.Shelf.Abstract
import Derived.Shelf.RegionOpen
import Derived.OwnWalkIn
import Derived.TacticsInMore
import Derived.LoopNIn
import Derived.LoopIn
import Derived.Maps.AppendAt
/-
  The library's iterator Backward, at releases: from the last one to the first one. Condition: the slice reads as releases.
-/
namespace Go.Proofs.YtmoeilkaadnnoaaGreat.Mani
open Go Go.RowKit Go.Lib Go.Proofs.YtmoeilkaadnnoaaGreat.Span Go.Proofs.YtmoeilkaadnnoaaGreat.Need
set_option linter.unusedVariables false
attribute [local go_sem] Oper.semAt_some
abbrev It := Nat × Int × Option Addr × Nat × Nat
def encI (x : It) : Array Value := #[.int .i64 (x.1 : Int), .agg #[.int .i64 x.2.1, .slice x.2.2.1 x.2.2.2.1 x.2.2.2.2]]
def verI (x : It) : Int := x.2.1
def AllI (l : List Rl) (ys : List It) : Prop := ys.map verI = (l.map Prod.fst).reverse
def KpI (n₀ Bn : Nat) (W W' : World) : Prop := Below n₀ W W' ∧ ∀ u, Boxed W Bn 75 u → Boxed W' Bn 75 u
theorem kpI_t {n₀ Bn : Nat} {A B C : World} (h : KpI n₀ Bn A B) (k : KpI n₀ Bn B C) : KpI n₀ Bn A C := ⟨h.1.trans k.1, fun u hu => k.2 u (h.2 u hu)⟩
theorem kpI_b {n₀ Bn : Nat} {w : World} (hn : n₀ ≤ w.heap.size) (hB : Bn < w.heap.size) (W : World) (l : Nat) (o o' : Obj) (hl : w.heap.size ≤ l) (h : W.heap[l]? = some o) (h1 : o.isCells = false) (h2 : o.isWalk = false) : KpI n₀ Bn W (W.putObj l o') :=
  ⟨belowK_b hn W l o o' hl h h1 h2, fun u hu => hu.kept (grownBy_putObj' W l o') (fun e => by injection e with e; omega)⟩
theorem rev_step {l : List Rl} {j : Nat} {q : Rl} {ys : List Int} (hq : l[j]? = some q) (h : ys ++ ((l.take (j + 1)).map Prod.fst).reverse = (l.map Prod.fst).reverse) : (ys ++ [q.1]) ++ ((l.take j).map Prod.fst).reverse = (l.map Prod.fst).reverse := by
  rw [← h, take_snoc' l j q hq]
  simp
set_option maxRecDepth 100000 in
set_option maxHeartbeats 2000000 in
theorem back1_in (l0 n₀ Bn : Nat) (l : List Rl) (A : Option Addr) (n c : Nat) (hn : n ≤ 1000) (J Jx : List It → World → Prop) (m : Nat) (hm : 3 ≤ m)
    (W : World) (hJ : AbidesFrom W.heap.size J)
    (hY : ∀ pre x W, J pre W → pre.length < n → YieldAt Fence.wide (m - 1) Tryz.prog l0 (encI x) W fun e W' =>
      (e = .returned (.bool true) ∧ J (pre ++ [x]) W' ∧ KpI n₀ Bn W W') ∨ (e = .returned (.bool false) ∧ Jx (pre ++ [x]) W'))
    (hBn : Boxed W Bn 75 (.slice A n c)) (h : RlIn W n₀ A n l) (h0 : J [] W) :
    CallsIn Fence.wide m Tryz.prog 127 #[.func (.yield l0) #[] #[], .pointer (some ⟨Bn, 0, none⟩)] W fun e W' => (∃ v, e = .returned v) ∧
      ((∃ ys : List It, AllI l ys ∧ J ys W') ∨ (∃ pre : List It, True ∧ Jx pre W')) := by
  have hlen := h.len
  have hc0 := hBn.cell
  have hw1 : IntKind.i64.wrap ((n : Int) - 1) = (n : Int) - 1 := by rw [IntKind.wrap_i64]; omega
  refine callsIn_of_wp Tryz.func127 rfl trivial ?_ rfl
  simp only [Tryz.ntmps127, List.size_toArray, List.length_cons, List.length_nil, Nat.reduceAdd, Nat.reduceSub, Array.replicate_succ, Array.replicate_zero, List.push_toArray, List.append_toArray, List.nil_append, List.cons_append]
  gi_wp2
  gi_loopw [3] (fun p wr => ∃ (z : Int) (k : Nat) (pre : List It), p = .int .i64 z ∧ z = (k : Int) - 1 ∧ k ≤ n ∧ J pre wr ∧ Below n₀ W wr ∧ Boxed wr Bn 75 (.slice A n c) ∧ Hid (pre.map verI ++ ((l.take k).map Prod.fst).reverse = (l.map Prod.fst).reverse)) (fun p _ => (RowKit.intOf p + 1).toNat)
  case atStart => exact ⟨(n : Int) - 1, n, [], rfl, rfl, Nat.le_refl _, h0, Below.refl _ _, hBn, hide (by rw [List.take_of_length_le (by omega)]; rfl)⟩
  case round =>
    obtain ⟨z, k, pre, rfl, hz, hk, hJr, hb, hBx, hp⟩ := hrel
    cases k with
    | zero =>
      have hzz : ¬ (0 : Int) ≤ z := by omega
      have he : AllI l pre := by have := hp.out; simpa [AllI] using this
      clear hz hp
      gi_wp2
      go_end0
      exact ⟨⟨_, rfl⟩, .inl ⟨pre, he, hJr⟩⟩
    | succ j =>
      have hj : j < n := by omega
      obtain ⟨ad, q, A', n', c', rfl, hbl, hx, hs, c1, c2⟩ := RlIn.at_ (h.below hb) hj
      have hpl : pre.length < n := by
        have e := congrArg List.length hp.out
        simp only [List.length_append, List.length_map, List.length_reverse, List.length_take] at e
        omega
      obtain ⟨y, s⟩ := q
      simp only [] at c1 c2
      have hnx := hide (rev_step hx hp.out)
      obtain rfl : z = (j : Int) := by omega
      obtain ⟨x, hxx⟩ : ∃ x : It, x = (j, y, A', n', c') := ⟨_, rfl⟩
      have henc : encI x = #[.int .i64 (j : Int), .agg #[.int .i64 y, .slice A' n' c']] := by rw [hxx]; rfl
      have hver : verI x = y := by rw [hxx]; rfl
      obtain ⟨fn, tmps, assign, body, hy, hR⟩ := hY pre x wr hJr hpl
      have hbc := hBx.cell
      have hw2 : IntKind.i64.wrap ((j : Int) - 1) = (j : Int) - 1 := by rw [IntKind.wrap_i64]; omega
      have hz0 : (0 : Int) ≤ (j : Int) := by omega
      rw [henc] at hy
      clear hz hp hx hs hxx hc0
      gi_wp2
      refine ⟨fun _ => by omega, hR.mono ?_⟩
      rintro e W3 (⟨rfl, hJ3, hk3⟩ | ⟨rfl, hJx3⟩)
      · gi_wp2
        go_roundw
        case rel => exact ⟨(j : Int) - 1, j, pre ++ [x], by go_num, rfl, by omega, hJ3, hb.trans hk3.1, hk3.2 _ hBx, hide (by rw [List.map_append, List.map_cons, List.map_nil, hver]; exact hnx.out)⟩
        case measure => simp [RowKit.intOf]
      · gi_wp2
        refine bodyPost_ret (results_none rfl _ _ _) rfl ?_
        exact ⟨⟨_, rfl⟩, .inr ⟨pre ++ [x], trivial, hJx3⟩⟩
theorem back_stops (l : List Rl) (A : Option Addr) (n c n₀ Bn m : Nat) (hn : n ≤ 1000) (hm : 3 ≤ m) (w : World) (h : RlIn w n₀ A n l) (h0 : n₀ ≤ w.heap.size) (hB : Boxed w Bn 75 (.slice A n c)) :
    SeqStopsK Fence.wide m Tryz.prog 127 #[.pointer (some ⟨Bn, 0, none⟩)] encI (KpI n₀ Bn) (AllI l) (fun _ => True) n w := fun l0 J Jx W hW hJ _ hY hJ0 =>
  back1_in l0 n₀ Bn l A n c hn J Jx m hm W hJ hY ((hW.block Bn hB.lt).trans hB) (h.below (hW.mono h0)) hJ0
theorem back_any (A : Option Addr) (n c : Nat) (w : World) :
    Calls Tryz.prog 101 #[.slice A n c] w fun e w' => e = .returned (.func (.func 127) #[] #[.pointer (some ⟨w.heap.size, 0, none⟩)]) ∧ w' = w.alloc (.cells #[.slice A n c] 75) := by
  go_enter Tryz.func101, Tryz.ntmps101
  go_wp2
  go_ret
  exact ⟨rfl, rfl⟩
end Go.Proofs.YtmoeilkaadnnoaaGreat.Mani
/-
  A range over a function whose rounds are told, one by one, what they are given: the iterator's contract may say of each round's arguments what they read as in the world at hand. Each round ends normally. No program.
-/
namespace Go.Proofs.YtmoeilkaadnnoaaGreat.Plain
open Go Go.RowKit
set_option linter.unusedVariables false
variable {F : Fence} {n : Nat} {P : Program}
theorem only_none {A B : World} (h : Below A.heap.size A B) : A.grownBy B none := ⟨h.os, h.tape, h.output, h.size, fun i hi _ => h.block i hi⟩
def Rounds (F : Fence) (m : Nat) (P : Program) (gf : Nat) (lb : Array Value) (Rd : Nat → Array Value → World → Prop) (Kp : World → World → Prop) (N : Nat) (w0 : World) : Prop :=
  ∀ (l : Nat) (J : Nat → World → Prop) (W : World), Below w0.heap.size w0 W → (∀ k A B, J k A → Below A.heap.size A B → J k B) →
    (∀ k args W1, J k W1 → Rd k args W1 → k < N → YieldAt F (m - 1) P l args W1 fun e W' => e = .returned (.bool true) ∧ J (k + 1) W' ∧ Kp W1 W') →
    J 0 W → CallsIn F m P gf (#[.func (.yield l) #[] #[]] ++ lb) W fun e W' => (∃ v, e = .returned v) ∧ J N W'
theorem range_told {g : Operand} {ps : Array Tmp} {assign body : Code} {Q : Exit → Act → World → Prop} {a : Act} {w : World} (hro : F.round = none) (h1 : 1 ≤ n) {gf : Nat} {lb : Array Value} (hg : a.eval g = .func (.func gf) #[] lb) (hFg : F.fn gf) (eg : ∀ args w, (callFunc gf args).run P w = .ok (.enter gf args) w)
    {Rd : Nat → Array Value → World → Prop} {Kp : World → World → Prop} {N : Nat} (hseq : Rounds F (n - 1) P gf lb Rd Kp N w)
    (hRs : ∀ k args W, Rd k args W → args.size = ps.size) (hRd : ∀ k, OwnFrom w.heap.size (Rd k))
    (I : Nat → World → Prop) (hI : OwnFrom w.heap.size I) (h0 : I 0 w)
    (hKt : ∀ {A B C : World}, Kp A B → Kp B C → Kp A C) (hKb : ∀ (W : World) (l : Nat) (o o' : Obj), w.heap.size ≤ l → W.heap[l]? = some o → o.isCells = false → Kp W (W.putObj l o'))
    (aft : Array Value → Act)
    (hassign : ∀ (l k : Nat) (args : Array Value) (W : World) (K : Act → World → Prop), Rd k args W → K (aft args) W → assign.wpIn (F.inRound l) (n - 1 - 1) P (Exit.then K (fun _ _ _ => False)) { tmps := (ps.zip args).foldl (fun t (p, v) => t.setIfInBounds p v) a.tmps, defers := [] } W)
    (hbody : ∀ (l k : Nat) (args : Array Value) (W : World), I k W → Rd k args W → k < N → body.wpIn (F.inRound l) (n - 1 - 1) P (fun e _ W' => e = .normal ∧ KeepsFrom w.heap.size W W' ∧ Kp W W' ∧ I (k + 1) W') (aft args) W)
    (hdone : ∀ (D : Nat) (W : World), w.heap.size ≤ D → I N W → W.heap[D]? = some (.deferred (some [])) → Q .normal { a with defers := { target := .collected D, args := #[] } :: a.defers } W) :
    (Code.rangeFunc g ps assign body).wpIn F n P Q a w := by
  refine wpIn_rangeFunc fun fn hfn => ?_
  rw [hro]
  -- the two blocks that the statement lays: the rounds' deferred calls, the record
  let b := w.heap.size
  let rec_ : LoopState → Loop := fun st => { state := st, pending := none, fn := fn, tmps := a.tmps, params := ps, assign := assign, body := body, defers := b }
  let W1 := (w.alloc (.deferred (some []))).alloc (.loop (rec_ .ready))
  let J : Nat → World → Prop := fun k W => I k W ∧ W.heap[b + 1]? = some (.loop (rec_ .ready)) ∧ W.heap[b]? = some (.deferred (some []))
  have hs0 : (w.alloc (.deferred (some []))).heap.size = b + 1 := World.size_alloc _ _
  have hL1 : W1.heap[b + 1]? = some (.loop (rec_ .ready)) := by
    have := World.alloc_heap_new (w.alloc (.deferred (some []))) (.loop (rec_ .ready))
    rwa [hs0] at this
  have hD1 : W1.heap[b]? = some (.deferred (some [])) := (Below.heap_alloc _ _ _ (by rw [hs0]; exact Nat.lt_succ_self _)).trans (World.alloc_heap_new w _)
  have hB1 : Below w.heap.size w W1 := ((Below.refl _ w).alloc (Nat.le_refl _) _).alloc (by rw [hs0]; exact Nat.le_succ _) _
  refine ⟨b + 1, [{ target := .collected b, args := #[] }], W1, { target := .fn (.func gf) lb, args := #[.func (.yield (b + 1)) #[] #[]] }, W1, gf, #[.func (.yield (b + 1)) #[] #[]] ++ lb, W1, run_enterLoop_outer _ _ _ _ _, ?_, ?_, ?_, fun _ => h1, ?_⟩
  · simp only [resolve, hg]
    simp [go_sem]
  · intro f' hf'
    simp [Target.leads] at hf'
    subst hf'
    exact hFg
  · simp [invoke, go_sem, eg]
  · have noCells : ∀ (r : Loop), (Obj.loop r).isCells = false := fun _ => rfl
    refine (hseq (b + 1) J W1 hB1 (fun k A B hJ hb => ⟨hI k A B none hJ.1 (only_none hb) (fun r e => by cases e), (hb.block _ (Array.getElem?_eq_some_iff.1 hJ.2.1).1).trans hJ.2.1, (hb.block _ (Array.getElem?_eq_some_iff.1 hJ.2.2).1).trans hJ.2.2⟩) (fun k args W hJ hrd hk => ?_) ⟨hI.alloc _ (hI.alloc _ h0), hL1, hD1⟩).mono ?_
    · obtain ⟨hi, hl, hd⟩ := hJ
      have hlt : b + 1 < W.heap.size := (Array.getElem?_eq_some_iff.1 hl).1
      refine ⟨fn, _, assign, body, run_yield hl (hRs k args W hrd), roundIn_of_wpIn hfn (hassign _ k args W _ hrd ⟨_, run_beginRound hl rfl, ?_⟩)⟩
      have hl2 : (W.putObj (b + 1) (.loop { rec_ .ready with state := .busy })).heap[b + 1]? = some (.loop { rec_ .ready with state := .busy }) := World.putObj_heap_same hlt
      have hd2 : (W.putObj (b + 1) (.loop { rec_ .ready with state := .busy })).heap[b]? = some (.deferred (some [])) := (World.putObj_heap_other (by omega)).trans hd
      refine wpIn_mono (hbody (b + 1) k args _ (hI.putObj _ hi (Nat.le_succ _) hl rfl) ((hRd k).putObj _ hrd (Nat.le_succ _) hl rfl) hk) ?_
      rintro e a3 W3 ⟨rfl, hkf, hkp, hi3⟩
      have hl3 := hkf.same _ _ (Nat.le_succ _) hl2 rfl
      have hd3 := hkf.same _ _ (Nat.le_refl _) hd2 rfl
      refine ⟨_, _, run_endRound none hl3, rfl, ⟨hI.putObj _ hi3 (Nat.le_succ _) hl3 rfl, World.putObj_heap_same (Array.getElem?_eq_some_iff.1 hl3).1, (World.putObj_heap_other (by omega)).trans hd3⟩, ?_⟩
      exact hKt (hKt (hKb _ _ _ _ (Nat.le_succ _) hl rfl) hkp) (hKb _ _ _ _ (Nat.le_succ _) hl3 rfl)
    · rintro e W2 ⟨⟨v, rfl⟩, hi, hl, hd⟩
      exact ⟨none, _, run_endLoop hl (by simp [rec_]), hdone b _ (Nat.le_refl _) (hI.putObj _ hi (Nat.le_succ _) hl rfl) ((World.putObj_heap_other (by omega)).trans hd)⟩
end Go.Proofs.YtmoeilkaadnnoaaGreat.Plain
