/-
  Some texts of this claim, one behind the other: RangeTold, RangeBox, FactCollect. What each proves, and its condition, stands at its head.
-/
import Derived.RangeFuncNested
import Derived.RangeFuncBound
import Derived.RangeFuncCalls
import Derived.RangeFuncLeaves
import Derived.RangeFuncBox
import Derived.Test.YtpicnbidbddggaaGreatDoorX38
import Derived.Shelf.Abstract
import Derived.Shelf.RegionOpen
import Derived.OwnWalkIn
import Derived.TacticsInMore
import Derived.LoopNIn
import Derived.LoopIn
import Derived.Maps.AppendAt
import Derived.Laws.EntriesVeiled
import Derived.RangeFuncWrites
import Derived.Deep.RegionHeld3
/-
  A range over a function whose rounds are told, one by one, what they are given: the iterator's contract may say of each round's arguments what they read as in the world at hand. Each round ends normally. No program.
-/
namespace Go.Proofs.YtpicnbidbddggaaGreatDoor.Plain
open Go Go.RowKit
set_option linter.unusedVariables false
variable {F : Fence} {n : Nat} {P : Program}
theorem only_none {A B : World} (h : Below A.heap.size A B) : A.grownBy B none := ⟨h.os, h.tape, h.output, h.size, fun i hi _ => h.block i hi⟩
def Rounds (F : Fence) (m : Nat) (P : Program) (gf : Nat) (lb : Array Value) (Rd : Nat → Array Value → World → Prop) (Kp : World → World → Prop) (N : Nat) (w0 : World) : Prop :=
  ∀ (l : Nat) (J : Nat → World → Prop) (W : World), Below w0.heap.size w0 W → (∀ k A B, J k A → Below A.heap.size A B → J k B) →
    (∀ k args W1, J k W1 → Rd k args W1 → k < N → YieldAt F (m - 1) P l args W1 fun e W' => e = .returned (.bool true) ∧ J (k + 1) W' ∧ Kp W1 W') →
    J 0 W → CallsIn F m P gf (#[.func (.yield l) #[] #[]] ++ lb) W fun e W' => (∃ v, e = .returned v) ∧ J N W'
end Go.Proofs.YtpicnbidbddggaaGreatDoor.Plain
/-
  A range over a function whose rounds are told, as in RangeTold, where a round's variable lies in a box of its own: what the assignment leaves is told by a relation. No program.
-/
namespace Go.Proofs.YtpicnbidbddggaaGreatDoor.Plain
open Go Go.RowKit
set_option linter.unusedVariables false
variable {F : Fence} {n : Nat} {P : Program}
theorem range_box {g : Operand} {ps : Array Tmp} {assign body : Code} {Q : Exit → Act → World → Prop} {a : Act} {w : World} (hro : F.round = none) (h1 : 1 ≤ n) {gf : Nat} {lb : Array Value} (hg : a.eval g = .func (.func gf) #[] lb) (hFg : F.fn gf) (eg : ∀ args w, (callFunc gf args).run P w = .ok (.enter gf args) w)
    {Rd : Nat → Array Value → World → Prop} {Kp : World → World → Prop} {N : Nat} (hseq : Rounds F (n - 1) P gf lb Rd Kp N w)
    (hRs : ∀ k args W, Rd k args W → args.size = ps.size) (hRd : ∀ k, OwnFrom w.heap.size (Rd k))
    (I : Nat → World → Prop) (hI : OwnFrom w.heap.size I) (h0 : I 0 w)
    (hKt : ∀ {A B C : World}, Kp A B → Kp B C → Kp A C) (hKb : ∀ (W : World) (l : Nat) (o o' : Obj), w.heap.size ≤ l → W.heap[l]? = some o → o.isCells = false → Kp W (W.putObj l o'))
    (hKa : ∀ (A B : World), w.heap.size ≤ A.heap.size → Below A.heap.size A B → Kp A B)
    (Af : Array Value → Act → World → Prop) (hAf : ∀ args, OwnFrom w.heap.size (Af args))
    (hassign : ∀ (l k : Nat) (args : Array Value) (W : World) (K : Act → World → Prop), w.heap.size ≤ W.heap.size → Rd k args W → (∀ a1 W1, Below W.heap.size W W1 → Af args a1 W1 → K a1 W1) → assign.wpIn (F.inRound l) (n - 1 - 1) P (Exit.then K (fun _ _ _ => False)) { tmps := (ps.zip args).foldl (fun t (p, v) => t.setIfInBounds p v) a.tmps, defers := [] } W)
    (hbody : ∀ (l k : Nat) (args : Array Value) (a1 : Act) (W : World), I k W → Rd k args W → Af args a1 W → k < N → body.wpIn (F.inRound l) (n - 1 - 1) P (fun e _ W' => e = .normal ∧ KeepsFrom w.heap.size W W' ∧ Kp W W' ∧ I (k + 1) W') a1 W)
    (hdone : ∀ (D : Nat) (W : World), w.heap.size ≤ D → I N W → W.heap[D]? = some (.deferred (some [])) → Q .normal { a with defers := { target := .collected D, args := #[] } :: a.defers } W) :
    (Code.rangeFunc g ps assign body).wpIn F n P Q a w := by
  refine wpIn_rangeFunc fun fn hfn => ?_
  rw [hro]
  let b := w.heap.size
  let rec_ : LoopState → Loop := fun st => { state := st, pending := none, fn := fn, tmps := a.tmps, params := ps, assign := assign, body := body, defers := b }
  let W1 := (w.alloc (.deferred (some []))).alloc (.loop (rec_ .ready))
  let J : Nat → World → Prop := fun k W => I k W ∧ W.heap[b + 1]? = some (.loop (rec_ .ready)) ∧ W.heap[b]? = some (.deferred (some []))
  have hs0 : (w.alloc (.deferred (some []))).heap.size = b + 1 := World.size_alloc _ _
  have hL1 : W1.heap[b + 1]? = some (.loop (rec_ .ready)) := by
    have := World.alloc_heap_new (w.alloc (.deferred (some []))) (.loop (rec_ .ready))
    rwa [hs0] at this
  have hD1 : W1.heap[b]? = some (.deferred (some [])) := (Below.heap_alloc _ _ _ (by rw [hs0]; exact Nat.lt_succ_self _)).trans (World.alloc_heap_new w _)
  have hB1 : Below w.heap.size w W1 := ((Below.refl _ w).alloc (Nat.le_refl _) _).alloc (by rw [hs0]; exact Nat.le_succ _) _
  refine ⟨b + 1, [{ target := .collected b, args := #[] }], W1, { target := .fn (.func gf) lb, args := #[.func (.yield (b + 1)) #[] #[]] }, W1, gf, #[.func (.yield (b + 1)) #[] #[]] ++ lb, W1, run_enterLoop_outer _ _ _ _ _, ?_, ?_, ?_, fun _ => h1, ?_⟩
  · simp only [resolve, hg]
    simp [go_sem]
  · intro f' hf'
    simp [Target.leads] at hf'
    subst hf'
    exact hFg
  · simp [invoke, go_sem, eg]
  · refine (hseq (b + 1) J W1 hB1 (fun k A B hJ hb => ⟨hI k A B none hJ.1 (only_none hb) (fun r e => by cases e), (hb.block _ (Array.getElem?_eq_some_iff.1 hJ.2.1).1).trans hJ.2.1, (hb.block _ (Array.getElem?_eq_some_iff.1 hJ.2.2).1).trans hJ.2.2⟩) (fun k args W hJ hrd hk => ?_) ⟨hI.alloc _ (hI.alloc _ h0), hL1, hD1⟩).mono ?_
    · obtain ⟨hi0, hl0, hd0⟩ := hJ
      have hlt0 : b + 1 < W.heap.size := (Array.getElem?_eq_some_iff.1 hl0).1
      have hltd : b < W.heap.size := Nat.lt_trans (Nat.lt_succ_self _) hlt0
      refine ⟨fn, _, assign, body, run_yield hl0 (hRs k args W hrd), roundIn_of_wpIn hfn (hassign _ k args W _ (Nat.le_of_lt hltd) hrd fun a1 Wa hba hA => ?_)⟩
      have hl : Wa.heap[b + 1]? = some (.loop (rec_ .ready)) := (hba.block _ hlt0).trans hl0
      have hd : Wa.heap[b]? = some (.deferred (some [])) := (hba.block _ hltd).trans hd0
      have hi : I k Wa := hI k W Wa none hi0 (only_none hba) (fun r e => by cases e)
      have hrda : Rd k args Wa := hRd k args W Wa none hrd (only_none hba) (fun r e => by cases e)
      have hlt : b + 1 < Wa.heap.size := (Array.getElem?_eq_some_iff.1 hl).1
      refine ⟨_, run_beginRound hl rfl, ?_⟩
      have hl2 : (Wa.putObj (b + 1) (.loop { rec_ .ready with state := .busy })).heap[b + 1]? = some (.loop { rec_ .ready with state := .busy }) := World.putObj_heap_same hlt
      have hd2 : (Wa.putObj (b + 1) (.loop { rec_ .ready with state := .busy })).heap[b]? = some (.deferred (some [])) := (World.putObj_heap_other (by omega)).trans hd
      refine wpIn_mono (hbody (b + 1) k args a1 _ (hI.putObj _ hi (Nat.le_succ _) hl rfl) ((hRd k).putObj _ hrda (Nat.le_succ _) hl rfl) ((hAf args).putObj _ hA (Nat.le_succ _) hl rfl) hk) ?_
      rintro e a3 W3 ⟨rfl, hkf, hkp, hi3⟩
      have hl3 := hkf.same _ _ (Nat.le_succ _) hl2 rfl
      have hd3 := hkf.same _ _ (Nat.le_refl _) hd2 rfl
      refine ⟨_, _, run_endRound none hl3, rfl, ⟨hI.putObj _ hi3 (Nat.le_succ _) hl3 rfl, World.putObj_heap_same (Array.getElem?_eq_some_iff.1 hl3).1, (World.putObj_heap_other (by omega)).trans hd3⟩, ?_⟩
      exact hKt (hKa _ _ (Nat.le_of_lt hltd) hba) (hKt (hKt (hKb _ _ _ _ (Nat.le_succ _) hl rfl) hkp) (hKb _ _ _ _ (Nat.le_succ _) hl3 rfl))
    · rintro e W2 ⟨⟨v, rfl⟩, hi, hl, hd⟩
      exact ⟨none, _, run_endLoop hl (by simp [rec_]), hdone b _ (Nat.le_refl _) (hI.putObj _ hi (Nat.le_succ _) hl rfl) ((World.putObj_heap_other (by omega)).trans hd)⟩
end Go.Proofs.YtpicnbidbddggaaGreatDoor.Plain
/-
  The contract of the program's collect: facts and steps that an iterator tells, two by two, as two lists. Condition: an iterator that gives so many rounds, the k-th one with the k-th fact; at most 5,000.
-/
namespace Go.Proofs.YtpicnbidbddggaaGreatDoor.Fact
open Go Go.RowKit Go.Lib Go.Sort Go.Proofs.YtpicnbidbddggaaGreatDoor.Span Go.Proofs.YtpicnbidbddggaaGreatDoor.Need Go.Proofs.YtpicnbidbddggaaGreatDoor.Mani Go.Proofs.YtpicnbidbddggaaGreatDoor.Grow Go.Proofs.YtpicnbidbddggaaGreatDoor.Term Go.Proofs.YtpicnbidbddggaaGreatDoor.Clash
open Go.Proofs.YtpicnbidbddggaaGreatDoor.Plain (Rounds range_box only_none)
set_option linter.unusedVariables false
attribute [local go_sem] Oper.semAt_some
def spA (q : Sp) : Array Value := #[.int .i64 q.kind, .string q.name, .int .i64 q.ver, .string q.dest, .int .i64 q.a, .int .i64 q.b]
theorem farT_no {W : World} {B : Nat} {T : TypeId} {row : Option Nat} (hr : ∀ r, row = some r → B ≤ r ∧ ∃ o : Obj, W.heap[r]? = some o ∧ o.isCells = false) : FarT W T row := by
  intro b cur m h e
  obtain ⟨_, o, ho, hc⟩ := hr b e.symm
  rw [ho] at h
  injection h with h
  subst h
  cases hc
def RdF (L : List (List Tm × Sp)) (k : Nat) (args : Array Value) (W : World) : Prop := ∃ A n c C q, args = #[.slice A n c, .agg (spA q)] ∧ L[k]? = some (C, q) ∧ TmR W W.heap.size A n C
theorem rdF_abide {L : List (List Tm × Sp)} (B k : Nat) : OwnFrom B (RdF L k) := fun args W W' row h hg hr => by
  obtain ⟨A, n, c, C, q, e, hL, hT⟩ := h
  exact ⟨A, n, c, C, q, e, hL, hT.far (farT_no hr) (farT_no hr) hg⟩
theorem belowP {n0 : Nat} (W : World) (l : Nat) (o o' : Obj) (hl : n0 ≤ l) (h : W.heap[l]? = some o) (h1 : o.isCells = false) : Below n0 W (W.putObj l o') := by
  have hg := grownBy_putObj' W l o'
  refine ⟨hg.os, hg.tape, hg.output, hg.size, fun i hi => ?_⟩
  by_cases hiw : i < W.heap.size
  · exact hg.block i hiw (by intro e; injection e with e; omega)
  · have := (Array.getElem?_eq_some_iff.1 h).1
    omega
theorem keepsB {B : Nat} {W W' : World} (h : Below W.heap.size W W') : KeepsFrom B W W' := ⟨h.size, fun k o _ hk _ => (h.block k (Array.getElem?_eq_some_iff.1 hk).1).trans hk⟩
theorem keepsR {B base size n : Nat} {e : TypeId} {v : Value} {xs : List Value} {W W' : World} (h : W.ownsRow base e size v n xs) (hg : W.grownBy W' v.ownBlock) : KeepsFrom B W W' :=
  ⟨hg.size, fun k o _ hk hc => (hg.block k (Array.getElem?_eq_some_iff.1 hk).1 (fun e' => by
    rcases h.2 with ⟨rfl, _⟩ | ⟨g, cap, cur, rfl, _, hgb, _⟩
    · cases e'
    · simp only [Value.ownBlock, Option.some.injEq] at e'
      subst e'
      rw [hgb] at hk; cases hk; cases hc)).trans hk⟩
theorem not_row {W : World} {g : Nat} {T : TypeId} {cs : Array Value} {row : Option Nat} {B : Nat} (h : Blk W g T cs) (hr : ∀ r, row = some r → B ≤ r ∧ ∃ o : Obj, W.heap[r]? = some o ∧ o.isCells = false) : some g ≠ row := fun e => by
  obtain ⟨_, o, ho, hc⟩ := hr g e.symm
  rw [show W.heap[g]? = _ from h] at ho
  injection ho with ho
  subst ho
  cases hc
theorem own_no {W W' : World} {B C size n : Nat} {T : TypeId} {v : Value} {xs : List Value} {row : Option Nat} (h : W.ownsRow C T size v n xs) (hg : W.grownBy W' row) (hr : ∀ r, row = some r → B ≤ r ∧ ∃ o : Obj, W.heap[r]? = some o ∧ o.isCells = false) : W'.ownsRow C T size v n xs := own_far h (farT_no hr) hg
def KpF (n0 : Nat) (A B : World) : Prop := Below n0 A B ∧ ∀ g cs, Blk A g 116 cs → Blk B g 116 cs
theorem KpF.trans {n0 : Nat} {A B C : World} (h : KpF n0 A B) (k : KpF n0 B C) : KpF n0 A C := ⟨h.1.trans k.1, fun g cs hg => k.2 g cs (h.2 g cs hg)⟩
theorem KpF.of {n0 : Nat} {A B : World} (hA : n0 ≤ A.heap.size) (h : Below A.heap.size A B) : KpF n0 A B := ⟨h.mono hA, fun g cs hg => hg.below h hg.lt⟩
theorem KpF.obj {n0 : Nat} (W : World) (l : Nat) (o o' : Obj) (hl : n0 ≤ l) (h : W.heap[l]? = some o) (h1 : o.isCells = false) : KpF n0 W (W.putObj l o') :=
  ⟨belowP W l o o' hl h h1, fun g cs hg => hg.grown (grownBy_putObj' W l o') (not_row (B := 0) hg fun r e => by injection e with e; subst e; exact ⟨Nat.zero_le _, o, h, h1⟩)⟩
def StF (n0 B : Nat) (w : World) (k : Nat) (Lk : List (List Tm)) (Sk : List Sp) (W : World) : Prop := ∃ v vs u, Boxed W n0 33 v ∧ Boxed W (n0 + 1) 34 u ∧ Fcs W B v k vs Lk ∧ W.ownsRow B 103 6 u k (sps Sk) ∧ Below n0 w W
theorem cells_step (X : World) (q : Sp) (T : TypeId) (g : Nat) (hg : g = X.heap.size) : ∀ (j : Nat) u, (sps [q])[j]? = some u → (X.alloc (.cells (spA q) T)).cell? ((⟨g, 0, none⟩ : Addr).add j) = some u := by
  obtain ⟨ad, e, _, hc⟩ := (reads_step X q T g hg).2 (by omega)
  injection e with e
  subst e
  exact hc
theorem collect_one {w W w6 : World} {B k n c g gg cap : Nat} {A : Option Addr} {v u : Value} {vs : List Value} {Lk : List (List Tm)} {ss : List Value} {C : List Tm} {cs : Array Value}
    (g1 : Boxed W w.heap.size 33 v) (g2 : Boxed W (w.heap.size + 1) 34 u) (g3 : Fcs W B v k vs Lk) (g4 : W.ownsRow B 103 6 u k ss) (hT : TmR W W.heap.size A n C) (hst : Blk W g 103 cs) (hg0 : B ≤ g) (hwB : w.heap.size + 2 ≤ B)
    (hown : w6.ownsRow B 56 1 (.slice (some ⟨gg, 0, none⟩) (k + 1) cap) (k + 1) (vs ++ [.slice A n c])) (hg : (W.alloc (.cells #[.slice A n c] 56)).grownBy w6 v.ownBlock) (W7 : World) (hW7 : W7 = w6.setCell ⟨w.heap.size, 0, none⟩ (.slice (some ⟨gg, 0, none⟩) (k + 1) cap)) :
    Boxed W7 w.heap.size 33 (.slice (some ⟨gg, 0, none⟩) (k + 1) cap) ∧ Boxed W7 (w.heap.size + 1) 34 u ∧ Fcs W7 B (.slice (some ⟨gg, 0, none⟩) (k + 1) cap) (k + 1) (vs ++ [.slice A n c]) (Lk ++ [C]) ∧ W7.ownsRow B 103 6 u k ss ∧ Blk W7 g 103 cs ∧ KeepsFrom B W W7 ∧ KpF w.heap.size W W7 ∧
      w6.cell? ⟨w.heap.size, 0, none⟩ = some v ∧ w6.frozen? ⟨w.heap.size, 0, none⟩ = false := by
  have hb1 : Below W.heap.size W (W.alloc (.cells #[.slice A n c] 56)) := alloc_b _
  have hlt1 := g1.lt
  have k1 := g1.alloc (.cells #[.slice A n c] 56)
  have k2 := g2.alloc (.cells #[.slice A n c] 56)
  have k3 := g3.below hb1
  have k4 := own_below g4 hb1
  have k5 := hst.alloc (.cells #[.slice A n c] 56)
  have hlo : ∀ b, v.ownBlock = some b → B ≤ b := fun b e => (k3.1.lt b e).1
  have d1 := k1.kept hg (fun e => by have := hlo _ e.symm; omega)
  have d2 := k2.kept hg (fun e => by have := hlo _ e.symm; omega)
  have d3 := k3.cat (AllF.one (k := c) (hT.on hb1)) hown hg
  have d4 := own_far k4 (farT_own k3.1 (by decide)) hg
  have d5 : Blk w6 g 103 cs := k5.grown hg (farT_own k3.1 (by decide) g cs (0, 0) k5)
  have hs := only_setCell (p := ⟨w.heap.size, 0, none⟩) (only_self w6 w.heap.size) (.inl rfl) (.slice (some ⟨gg, 0, none⟩) (k + 1) cap)
  subst hW7
  refine ⟨d1.set _, d2.other (by omega) _, d3.far (farT_blk (show Blk w6 _ _ _ from d1) (by decide)) (farT_blk (show Blk w6 _ _ _ from d1) (by decide)) (farT_blk (show Blk w6 _ _ _ from d1) (by decide)) hs, own_far d4 (farT_blk (show Blk w6 _ _ _ from d1) (by decide)) hs, d5.far (p := ⟨w.heap.size, 0, none⟩) (by show g ≠ w.heap.size; omega) _, ?_, ?_, d1.cell, d1.frozen⟩
  · exact ((keepsB hb1).trans (keepsR k3.1 hg)).trans ((KeepsOthers.setCell _ _ _).from _)
  · have hbn : Below w.heap.size W (W.alloc (.cells #[.slice A n c] 56)) := hb1.mono (by omega)
    have hbg : Below w.heap.size W w6 := hbn.grown hg (by simp; omega) (fun r e => by have := hlo r e; omega)
    refine ⟨hbg.setCell (p := ⟨w.heap.size, 0, none⟩) (show w.heap.size ≤ w.heap.size from Nat.le_refl _) _, fun g' cs' h => ?_⟩
    have h1 := h.alloc (.cells #[.slice A n c] 56)
    have h2 : Blk w6 g' 116 cs' := h1.grown hg (farT_own k3.1 (by decide) g' cs' (0, 0) h1)
    exact h2.far (p := ⟨w.heap.size, 0, none⟩) (h2.ne_ (show Blk w6 _ _ _ from d1) (by decide)) _
theorem collect_two {w W w9 : World} {B k m gg cap : Nat} {v u : Value} {vs : List Value} {Lk : List (List Tm)} {ss : List Sp} {q : Sp}
    (g1 : Boxed W w.heap.size 33 v) (g2 : Boxed W (w.heap.size + 1) 34 u) (g3 : Fcs W B v m vs Lk) (g4 : W.ownsRow B 103 6 u k (sps ss)) (hwB : w.heap.size + 2 ≤ B)
    (hown : w9.ownsRow B 103 6 (.slice (some ⟨gg, 0, none⟩) (k + 1) cap) (k + 1) (sps ss ++ sps [q])) (hg : (W.alloc (.cells (spA q) 103)).grownBy w9 u.ownBlock) (W9 : World) (hW9 : W9 = w9.setCell ⟨w.heap.size + 1, 0, none⟩ (.slice (some ⟨gg, 0, none⟩) (k + 1) cap)) :
    Boxed W9 w.heap.size 33 v ∧ Boxed W9 (w.heap.size + 1) 34 (.slice (some ⟨gg, 0, none⟩) (k + 1) cap) ∧ Fcs W9 B v m vs Lk ∧ W9.ownsRow B 103 6 (.slice (some ⟨gg, 0, none⟩) (k + 1) cap) (k + 1) (sps (ss ++ [q])) ∧ KeepsFrom B W W9 ∧ KpF w.heap.size W W9 ∧
      w9.cell? ⟨w.heap.size + 1, 0, none⟩ = some u ∧ w9.frozen? ⟨w.heap.size + 1, 0, none⟩ = false := by
  have hb1 : Below W.heap.size W (W.alloc (.cells (spA q) 103)) := alloc_b _
  have hlt1 := g2.lt
  have k1 := g1.alloc (.cells (spA q) 103)
  have k2 := g2.alloc (.cells (spA q) 103)
  have k3 := g3.below hb1
  have k4 := own_below g4 hb1
  have hlo : ∀ b, u.ownBlock = some b → B ≤ b := fun b e => (k4.lt b e).1
  have d1 := k1.kept hg (fun e => by have := hlo _ e.symm; omega)
  have d2 := k2.kept hg (fun e => by have := hlo _ e.symm; omega)
  have d3 := k3.far (farT_own k4 (by decide)) (farT_own k4 (by decide)) (farT_own k4 (by decide)) hg
  have hs := only_setCell (p := ⟨w.heap.size + 1, 0, none⟩) (only_self w9 (w.heap.size + 1)) (.inl rfl) (.slice (some ⟨gg, 0, none⟩) (k + 1) cap)
  subst hW9
  rw [← sps_append] at hown
  refine ⟨d1.other (by omega) _, d2.set _, d3.far (farT_blk (show Blk w9 _ _ _ from d2) (by decide)) (farT_blk (show Blk w9 _ _ _ from d2) (by decide)) (farT_blk (show Blk w9 _ _ _ from d2) (by decide)) hs, own_far hown (farT_blk (show Blk w9 _ _ _ from d2) (by decide)) hs, ?_, ?_, d2.cell, d2.frozen⟩
  · exact ((keepsB hb1).trans (keepsR k4 hg)).trans ((KeepsOthers.setCell _ _ _).from _)
  · have hbn : Below w.heap.size W (W.alloc (.cells (spA q) 103)) := hb1.mono (by omega)
    have hbg : Below w.heap.size W w9 := hbn.grown hg (by simp; omega) (fun r e => by have := hlo r e; omega)
    refine ⟨hbg.setCell (p := ⟨w.heap.size + 1, 0, none⟩) (show w.heap.size ≤ w.heap.size + 1 by omega) _, fun g' cs' h => ?_⟩
    have h1 := h.alloc (.cells (spA q) 103)
    have h2 : Blk w9 g' 116 cs' := h1.grown hg (farT_own k4 (by decide) g' cs' (0, 0) h1)
    exact h2.far (p := ⟨w.heap.size + 1, 0, none⟩) (h2.ne_ (show Blk w9 _ _ _ from d2) (by decide)) _
set_option maxHeartbeats 16000000 in
set_option maxRecDepth 100000 in
theorem collectF_any (L : List (List Tm × Sp)) (gf : Nat) (lb : Array Value) (w : World) (hn : L.length ≤ 5000)
    (eg : ∀ args w, (callFunc gf args).run Tryz.prog w = .ok (.enter gf args) w)
    (hR : ∀ W0, Below w.heap.size w W0 → Rounds Fence.wide 8 Tryz.prog gf lb (RdF L) (KpF w.heap.size) L.length W0) :
    Calls Tryz.prog 27 #[.func (.func gf) #[] lb] w (FactsC w (L.map Prod.fst) (L.map Prod.snd)) := by
  unfold FactsC
  obtain ⟨i0, hi0, hz0, hz1, hz2⟩ := info_parts info_terms
  obtain ⟨i1, hi1, hy0, hy1, hy2⟩ := info_parts info_step
  refine (callsIn_wide (n := 9)).1 ?_
  refine callsIn_of_wp_marks Tryz.func27 rfl trivial ?_ rfl
  simp only [Tryz.ntmps27, List.size_toArray, List.length_cons, List.length_nil, Nat.reduceAdd, Nat.reduceSub, Array.replicate_succ, Array.replicate_zero, List.push_toArray, List.append_toArray, List.nil_append, List.cons_append]
  gi_wp2
  obtain ⟨W0, hW0⟩ : ∃ W0, W0 = ((w.alloc (.cells #[.slice none 0 0] 33)).alloc (.cells #[.slice none 0 0] 34)) := ⟨_, rfl⟩
  have hsz0 : W0.heap.size = w.heap.size + 2 := by rw [hW0]; simp
  have hB0 : Below w.heap.size w W0 := by rw [hW0]; exact ((Below.refl _ _).alloc (Nat.le_refl _) _).alloc (by simp) _
  have bF : Boxed W0 w.heap.size 33 (.slice none 0 0) := by
    rw [hW0]
    exact (Boxed.new w 33 (.slice none 0 0)).alloc _
  have bS : Boxed W0 (w.heap.size + 1) 34 (.slice none 0 0) := by
    rw [hW0]
    have := Boxed.new (w.alloc (.cells #[.slice none 0 0] 33)) 34 (.slice none 0 0)
    rwa [World.size_alloc] at this
  try rw [← hW0]
  clear hW0
  have hR0 := hR W0 hB0
  clear hR
  refine range_box (N := L.length) (Rd := RdF L) (Kp := KpF w.heap.size) rfl (by omega) (gf := gf) (lb := lb) rfl trivial eg hR0
    (fun k args W h => by obtain ⟨A, n, c, C, q, e, _⟩ := h; rw [e]; rfl)
    (rdF_abide _)
    (fun k W => StF w.heap.size W0.heap.size w k ((L.take k).map Prod.fst) ((L.take k).map Prod.snd) W)
    (fun k W W' row h hg hr => by
      obtain ⟨v, vs, u, g1, g2, g3, g4, hB⟩ := h
      exact ⟨v, vs, u, g1.kept hg (not_row (show Blk W _ _ _ from g1) hr), g2.kept hg (not_row (show Blk W _ _ _ from g2) hr), g3.far (farT_no hr) (farT_no hr) (farT_no hr) hg, own_no g4 hg hr, hB.grown hg hB.size (fun r e => by have := (hr r e).1; omega)⟩)
    ⟨_, [], _, bF, bS, Fcs.nil_ _ _, World.ownsRow_nil _ _ _ _, hB0⟩
    KpF.trans (fun W l o o' hl h h1 => KpF.obj W l o o' (by omega) h h1) (fun A B hA hb => KpF.of (by omega) hb)
    (fun args a1 W => ∃ g cs, args.getD 1 undef = .agg cs ∧ a1 = { tmps := #[.func (.func gf) #[] lb, undef, .slice none 0 0, .slice none 0 0, .pointer (some ⟨w.heap.size, 0, none⟩), .pointer (some ⟨w.heap.size + 1, 0, none⟩), args.getD 0 undef, .pointer (some ⟨g, 0, none⟩), .func (.func gf) #[] lb, args.getD 0 undef, args.getD 1 undef, undef, undef, undef, undef, undef, undef, undef, undef, undef, undef], defers := [] } ∧ W0.heap.size ≤ g ∧ Blk W g 103 cs)
    (fun args a1 W W' row h hg hr => by
      obtain ⟨g, cs, e1, e2, e3, hb⟩ := h
      exact ⟨g, cs, e1, e2, e3, hb.grown hg (not_row hb hr)⟩)
    ?assign ?body ?done
  case assign =>
    rintro lx k args W K hW ⟨A, n, c, C, q, rfl, hL, hT⟩ hK
    simp only [spA]
    gi_wp2
    exact hK _ _ (alloc_b _) ⟨W.heap.size, _, rfl, rfl, hW, Blk.new _ _ _⟩
  case body =>
    rintro lx k args a1 W ⟨v, vs, u, g1, g2, g3, g4, hB⟩ ⟨A, n, c, C, q, rfl, hL, hT⟩ ⟨g, cs, e1, rfl, hg0, hst⟩ hk
    obtain rfl : spA q = cs := by
      have e2 : Value.agg (spA q) = .agg cs := e1
      injection e2
    clear e1
    have hWs := hB.size
    have E1 := hide (show (L.take (k + 1)).map Prod.fst = (L.take k).map Prod.fst ++ [C] by rw [List.take_add_one, hL]; simp)
    have E2 := hide (show (L.take (k + 1)).map Prod.snd = (L.take k).map Prod.snd ++ [q] by rw [List.take_add_one, hL]; simp)
    generalize (L.take (k + 1)).map Prod.fst = Lx at *
    generalize (L.take (k + 1)).map Prod.snd = Sx at *
    generalize (L.take k).map Prod.fst = Lk at *
    generalize (L.take k).map Prod.snd = Sk at *
    clear hL
    have hwB : w.heap.size + 2 ≤ W0.heap.size := by omega
    have l1 := g1.lt
    have l2 := g2.lt
    have c1 : ∀ o, (W.alloc o).cell? ⟨w.heap.size, 0, none⟩ = some v := fun o => (g1.alloc o).cell
    have c0 := g1.cell
    have hb1 : Below W.heap.size W (W.alloc (.cells #[.slice A n c] 56)) := alloc_b _
    have own1 := own_below g3.1 hb1
    have hk1 : k ≤ 5000 := by omega
    have hWW : W0.heap.size ≤ W.heap.size := by omega
    clear hsz0
    show Code.wpIn _ _ _ _ _ _ _
    gi_wp2_with (first
      | (gi_at_builtin
         refine wpListIn_append_own _ rfl (.tmp 11) (.tmp 13) 33 rfl W0.heap.size 56 i0 _ 1 24 Tryz.underlying33 hi0 hz0 hz1 hz2 rfl (by decide) _ k vs rfl own1 ⟨W.heap.size, 0, none⟩ 1 1 [.slice A n c] rfl rfl (cell_one_new _ _ _) (by simp [Value.oneCell']) (by unfold maxLen; omega) (by omega) (by simp; omega) ?_
         intro v6 w6 hown6 hg6 _
         obtain ⟨gg, cap, rfl⟩ := ownsRow_succ hown6
         obtain ⟨m1, m2, m3, m4, m5, m6, m7, m8, m9⟩ := collect_one g1 g2 g3 g4 hT hst hg0 hwB hown6 hg6 _ rfl
         have z2 := m2.cell
         have s0 := (m5.cell 0).trans (show (spA q)[0]? = some (.int .i64 q.kind) from rfl)
         have s1 := (m5.cell 1).trans (show (spA q)[1]? = some (.string q.name) from rfl)
         have s2 := (m5.cell 2).trans (show (spA q)[2]? = some (.int .i64 q.ver) from rfl)
         have s3 := (m5.cell 3).trans (show (spA q)[3]? = some (.string q.dest) from rfl)
         have s4 := (m5.cell 4).trans (show (spA q)[4]? = some (.int .i64 q.a) from rfl)
         have s5 := (m5.cell 5).trans (show (spA q)[5]? = some (.int .i64 q.b) from rfl)
         have own7 := own_below m4 (alloc_b (.cells (spA q) 103))
         have hB7 : W.heap.size ≤ w6.heap.size := by have := m7.1.size; simpa using this)
      | (gi_at_builtin
         refine wpListIn_append_own _ rfl (.tmp 15) (.tmp 17) 34 rfl W0.heap.size 103 i1 _ 6 64 Tryz.underlying34 hi1 hy0 hy1 hy2 rfl (by decide) _ k (sps Sk) rfl own7 ⟨w6.heap.size, 0, none⟩ 1 1 (sps [q]) rfl rfl (cells_step _ q _ _ (by simp)) (sps_one _) (by unfold maxLen; omega) (by omega) (by simp; omega) ?_
         intro v9 w9 hown9 hg9 _
         obtain ⟨gh, cap9, rfl⟩ := ownsRow_succ hown9
         obtain ⟨y1, y2, y3, y4, y5, y6, y7, y8⟩ := collect_two m1 m2 m3 m4 hwB hown9 hg9 _ rfl))
    exact ⟨m6.trans y5, m7.trans y6, ⟨_, _, _, y1, y2, by rw [E1.out]; exact y3, by rw [E2.out]; exact y4, (hB.trans m7.1).trans y6.1⟩⟩
  case done =>
    rintro D W hD ⟨v, vs, u, g1, g2, g3, g4, hB⟩ hK
    have t1 : L.take L.length = L := List.take_of_length_le (Nat.le_refl _)
    rw [t1] at g3 g4
    have c1 := g1.cell
    have c2 := g2.cell
    obtain ⟨A1, n1, rfl, hn1, hF1⟩ := g3.told
    obtain ⟨A2, n2, rfl, hn2, hS2⟩ := own_steps g4
    have hg := grownBy_putObj' W.drew D (.deferred none)
    have hr : ∀ r, some D = some r → w.heap.size ≤ r ∧ ∃ o : Obj, W.drew.heap[r]? = some o ∧ o.isCells = false := fun r e => by
      injection e with e
      subst e
      exact ⟨by omega, _, hK, rfl⟩
    have kd : Below W.heap.size W W.drew := (Below.refl _ _).drew
    obtain ⟨A3, n3, e3, _, hF3⟩ := ((g3.below kd).far (farT_no hr) (farT_no hr) (farT_no hr) hg).told
    obtain ⟨A4, n4, e4, _, hS4⟩ := own_steps (own_no (own_below g4 kd) hg hr)
    injection e3 with e31 e32 e33
    injection e4 with e41 e42 e43
    subst e31 e33 e41 e43
    have hB4 : Below w.heap.size w (W.drew.putObj D (.deferred none)) := (hB.trans (kd.mono hB.size)).trans (belowP _ _ _ _ (hr D rfl).1 hK rfl)
    clear t1 hR0 hn e32 e42 hF1 hS2 hg hr kd hn1 hn2
    gi_wp2
    refine wpIn_wide.2 ?_
    go_region
    all_goals
      gi_wp2
      refine ⟨by simp, .inl ⟨_, _, rfl, run_takeDeferred hK, ?_⟩⟩
      exact ⟨_, results_tmp2 rfl _ _ _, _, _, _, _, _, _, rfl, hF3, hS4, hB4⟩
end Go.Proofs.YtpicnbidbddggaaGreatDoor.Fact
