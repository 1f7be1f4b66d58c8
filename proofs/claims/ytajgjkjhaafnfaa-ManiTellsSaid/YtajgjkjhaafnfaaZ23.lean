/-
  Some texts of this claim, one behind the other: ManiDown, ManiRefDown, ManiInts, ManiAwake. What each proves, and its condition, stands at its head.
-/
import Derived.Test.YtajgjkjhaafnfaaZ22
import Derived.Test.YtajgjkjhaafnfaaZ3
import Derived.Test.YtajgjkjhaafnfaaZ20
import Derived.Test.YtajgjkjhaafnfaaZ12
/-
  Contracts of Down and Newest: the versions in a set, the newest first; the newest one. Condition: releases of a number that may be walked.
-/
namespace Go.Proofs.Ytajgjkjhaafnfaa.Mani
open Go Go.RowKit Go.Lib Go.Proofs.Ytajgjkjhaafnfaa.Span Go.Proofs.Ytajgjkjhaafnfaa.Need
set_option linter.unusedVariables false
attribute [local go_sem] Oper.semAt_some
/-- What has been kept. -/
def hitsI (s : List S) (pre : List It) : List Int := (pre.map verI).filter (has s)
theorem hits_snoc (s : List S) (pre : List It) (x : It) : hitsI s (pre ++ [x]) = hitsI s pre ++ if has s (verI x) = true then [verI x] else [] := by
  unfold hitsI
  rw [List.map_append, List.filter_append]
  congr 1
  simp only [List.map_cons, List.map_nil, List.filter_cons, List.filter_nil]
theorem hits_len (s : List S) (pre : List It) : (hitsI s pre).length ≤ pre.length := by
  have := List.length_filter_le (has s) (pre.map verI)
  rw [List.length_map] at this
  exact this
theorem down_filter (l : List Rl) (s : List S) : (l.map Prod.fst).reverse.filter (has s) = downS l s := by
  induction l with
  | nil => rfl
  | cons x t ih =>
    rw [List.map_cons, List.reverse_cons, List.filter_append, ih, downS]
    congr 1
    simp only [List.filter_cons, List.filter_nil]
theorem hits_all {l : List Rl} {ys : List It} (h : AllI l ys) (s : List S) : hitsI s ys = downS l s := by
  unfold hitsI
  rw [show ys.map verI = _ from h, down_filter]
/-- A slice that reads as numbers in the world at hand. -/
def IntOn (w : World) (A : Option Addr) (n : Nat) (L : List Int) : Prop := Reads w w.heap.size 1 A n (ics L)
theorem IntOn.on {w w' : World} {A : Option Addr} {n : Nat} {L : List Int} (h : IntOn w A n L) (hb : Below w.heap.size w w') : IntOn w' A n L := (Reads.below h hb).more hb.size
theorem IntOn.len {w : World} {A : Option Addr} {n : Nat} {L : List Int} (h : IntOn w A n L) : L.length = n := by
  have := h.1
  rw [ics_length] at this
  omega
def MakesI (w : World) (L : List Int) (e : Ending) (w' : World) : Prop := ∃ A n c, e = .returned (.slice A n c) ∧ IntOn w' A n L ∧ Below w.heap.size w w'
theorem ics_append (l m : List Int) : ics (l ++ m) = ics l ++ ics m := by simp [ics]
theorem keeps_below {B : Nat} {W W' : World} (h : Below W.heap.size W W') : KeepsFrom B W W' := ⟨h.size, fun k o _ hk _ => (h.block k (Array.getElem?_eq_some_iff.1 hk).1).trans hk⟩
theorem keeps_row {B base size n : Nat} {e : TypeId} {v : Value} {xs : List Value} {W W' : World} (h : W.ownsRow base e size v n xs) (hg : W.grownBy W' v.ownBlock) : KeepsFrom B W W' :=
  ⟨hg.size, fun k o _ hk hc => (hg.block k (Array.getElem?_eq_some_iff.1 hk).1 (fun e' => by
    rcases h.2 with ⟨rfl, _⟩ | ⟨g, cap, cur, rfl, _, hgb, _⟩
    · cases e'
    · simp only [Value.ownBlock, Option.some.injEq] at e'
      subst e'
      rw [hgb] at hk; cases hk; cases hc)).trans hk⟩
set_option maxRecDepth 100000 in
set_option maxHeartbeats 4000000 in
theorem downM_any (nm : ByteArray) (l : List Rl) (A : Option Addr) (n c : Nat) (Ai : Option Addr) (ni ci : Nat) (s : List S) (w : World) (h : RlOn w A n l) (hl : n ≤ 30) (hs : SpOn w Ai ni s) (hni : ni ≤ 1000000001) :
    Calls Try.prog 24 #[.agg #[.string nm, .slice A n c], .slice Ai ni ci] w (MakesI w (downS l s)) := by
  unfold MakesI
  obtain ⟨i0, hi0, hz0, hz1, hz2⟩ := info_parts info_int
  have hbk := hide (fun wx => back_any A n c wx)
  obtain ⟨H, hH⟩ : ∃ H, H = w.heap.size := ⟨_, rfl⟩
  refine (callsIn_wide (n := 9)).1 ?_
  refine callsIn_of_wp_marks Try.func24 rfl trivial ?_ rfl
  simp only [Try.ntmps24, List.size_toArray, List.length_cons, List.length_nil, Nat.reduceAdd, Nat.reduceSub, Array.replicate_succ, Array.replicate_zero, List.push_toArray, List.append_toArray, List.nil_append, List.cons_append]
  gi_wp2_with (refine ⟨trivial, ?_⟩; gi_at_call 50; refine (callsIn_wide.2 (hbk.out _)).mono ?_; rintro e w2 ⟨rfl, rfl⟩)
  obtain ⟨W0, hW0⟩ : ∃ W0, W0 = ((((w.alloc (.cells #[.string nm, .slice A n c] 24)).alloc (.cells #[.slice Ai ni ci] 29)).alloc (.cells #[.slice none 0 0] 43)).alloc (.cells #[.slice A n c] 22)) := ⟨_, rfl⟩
  have hsz0 : W0.heap.size = w.heap.size + 4 := by rw [hW0]; simp
  have hB0 : Below w.heap.size w W0 := by
    rw [hW0]
    exact ((((Below.refl _ _).alloc (Nat.le_refl _) _).alloc (by simp) _).alloc (by simp; omega) _).alloc (by simp; omega) _
  have b1 : Boxed W0 (w.heap.size + 1) 29 (.slice Ai ni ci) := by
    rw [hW0]
    have := ((Boxed.new (w.alloc (.cells #[.string nm, .slice A n c] 24)) 29 (.slice Ai ni ci)).alloc (.cells #[.slice none 0 0] 43)).alloc (.cells #[.slice A n c] 22)
    rwa [World.size_alloc] at this
  have b2 : Boxed W0 (w.heap.size + 2) 43 (.slice none 0 0) := by
    rw [hW0]
    have := (Boxed.new ((w.alloc (.cells #[.string nm, .slice A n c] 24)).alloc (.cells #[.slice Ai ni ci] 29)) 43 (.slice none 0 0)).alloc (.cells #[.slice A n c] 22)
    rwa [World.size_alloc, World.size_alloc] at this
  have b3 : Boxed W0 (w.heap.size + 3) 22 (.slice A n c) := by
    rw [hW0]
    have := Boxed.new (((w.alloc (.cells #[.string nm, .slice A n c] 24)).alloc (.cells #[.slice Ai ni ci] 29)).alloc (.cells #[.slice none 0 0] 43)) 22 (.slice A n c)
    rwa [World.size_alloc, World.size_alloc, World.size_alloc] at this
  try rw [← hW0]
  clear hW0 hbk
  refine wpIn_rangeFunc_ownH rfl (by omega) (gf := 71) (lb := #[.pointer (some ⟨w.heap.size + 3, 0, none⟩)]) rfl trivial (enters_of Try.func71 (by kernel_rfl) rfl)
    (back_stops l A n c w.heap.size (w.heap.size + 3) _ (by omega) (by omega) W0 (RlIn.below h hB0) hB0.size b3) kpI_t (kpI_b hB0.size (by omega)) (Below.refl _ _) (fun _ => rfl)
    (fun pre W => (∃ v, Boxed W (w.heap.size + 2) 43 v ∧ Boxed W (w.heap.size + 1) 29 (.slice Ai ni ci) ∧ W.ownsRow W0.heap.size 3 1 v (hitsI s pre).length (ics (hitsI s pre))) ∧ Below w.heap.size w W)
    (fun c pre W => False)
    (fun pre X Y row ⟨⟨v, g1, g2, g3⟩, hB⟩ hg hr => ⟨⟨v, g1.kept hg (fun e => by have := (hr _ e.symm).1; omega), g2.kept hg (fun e => by have := (hr _ e.symm).1; omega), g3.kept hg (by
        rcases g3.2 with ⟨rfl, _⟩ | ⟨g, cap, cur, rfl, _, hgb, _⟩
        · exact .inl rfl
        · refine .inr fun e' => ?_
          obtain ⟨_, o, ho, hc⟩ := hr g (by simpa [Value.ownBlock] using e'.symm)
          rw [hgb] at ho; cases ho; cases hc)⟩, hB.grown hg hB.size (fun r e => by have := (hr r e).1; omega)⟩)
    (fun c pre X Y row hF _ _ => hF)
    ⟨⟨_, b2, b1, World.ownsRow_nil _ _ _ _⟩, hB0⟩
    (fun x a' W => ∃ Bx, Blk W Bx 33 #[.int .i64 x.2.1, .slice x.2.2.1 x.2.2.2.1 x.2.2.2.2] ∧ a' = { tmps := #[.agg #[.string nm, .slice A n c], .slice Ai ni ci, .pointer (some ⟨w.heap.size, 0, none⟩), .pointer (some ⟨w.heap.size + 1, 0, none⟩), .slice none 0 0, .pointer (some ⟨w.heap.size + 2, 0, none⟩), undef, .pointer (some ⟨Bx, 0, none⟩), .pointer (some ⟨w.heap.size, 1, none⟩), .slice A n c, .func (.func 71) #[] #[.pointer (some ⟨w.heap.size + 3, 0, none⟩)], .int .i64 (x.1 : Int), .agg #[.int .i64 x.2.1, .slice x.2.2.1 x.2.2.2.1 x.2.2.2.2], undef, undef, undef, undef, undef, undef, undef, undef, undef, undef], defers := [] })
    (fun x a' _ X Y row ⟨Bx, g2, g3⟩ hg hr => ⟨Bx, g2.grown hg (fun e => by
        obtain ⟨_, o, ho, hc⟩ := hr _ e.symm
        rw [show X.heap[Bx]? = _ from g2] at ho; cases ho; cases hc), g3⟩)
    ?assign ?body ?done ?stop
  case assign =>
    rintro lx pre x W K ⟨⟨v, g1, g2, g3⟩, hB⟩ hK
    unfold encI
    gi_wp2
    exact hK _ _ ((KeepsOthers.alloc _ _).from _) ⟨(Below.refl _ W).alloc hB.size _, fun u hu => hu.alloc _⟩ ⟨⟨v, g1.alloc _, g2.alloc _, own_below g3 (alloc_b _)⟩, hB.alloc hB.size _⟩ ⟨W.heap.size, Blk.new _ _ _, rfl⟩
  case body =>
    rintro lx pre x a' W hlx ⟨r, hr⟩ ⟨⟨v, g1, g2, hown⟩, hB⟩ ⟨Bx, hk, rfl⟩ hlt
    have HS := hide (has_on (c := ci) x.2.1 (SpOn.on hs hB) hni)
    have hsn := hits_snoc s pre x
    have hpl := hits_len s pre
    have hver : verI x = x.2.1 := rfl
    rw [hver] at hsn
    have c1 := g1.cell
    have c2 := g2.cell
    have k0 := hk.cell 0
    have hWs := hB.size
    have hlt1 := g1.lt
    have hlt2 := g2.lt
    have hltk := hk.lt
    unfold Tells at HS
    cases hh : has s x.2.1 with
    | false =>
      rw [hh] at HS hsn
      simp only [Bool.false_eq_true, if_false, List.append_nil] at hsn
      have Hsn := hide hsn
      clear hsn
      gi_wp2_with (refine ⟨trivial, ?_⟩
                   gi_at_call 30
                   refine (CallsIn.inRound lx (callsIn_wide.2 HS.out)).mono ?_
                   rintro e w5 ⟨rfl, hb5⟩)
      exact ⟨keeps_below hb5, ⟨hb5.mono hWs, fun u hu => (hb5.block _ hu.lt).trans hu⟩, ⟨v, (hb5.block _ g1.lt).trans g1, (hb5.block _ g2.lt).trans g2, by rw [Hsn.out]; exact own_below hown hb5⟩, hB.trans (hb5.mono hWs)⟩
    | true =>
      rw [hh] at HS hsn
      simp only [if_true] at hsn
      have Hsn := hide hsn
      clear hsn
      have hol := hown.lt
      gi_wp2_with (first
        | (refine ⟨trivial, ?_⟩
           gi_at_call 30
           refine (CallsIn.inRound lx (callsIn_wide.2 HS.out)).mono ?_
           rintro e w5 ⟨rfl, hb5⟩
           have h5s := hb5.size
           have d1 : Boxed w5 (w.heap.size + 2) 43 v := (hb5.block _ hlt1).trans g1
           have e1 := d1.cell
           have dk : Blk w5 Bx 33 _ := hk.below hb5 hltk
           have e2 := dk.cell 0
           have e3 : ∀ o, (w5.alloc o).cell? ⟨w.heap.size + 2, 0, none⟩ = some v := fun o => (d1.alloc o).cell
           have hbA : Below W.heap.size W (w5.alloc (.cells #[.int .i64 x.2.1] 3)) := hb5.alloc h5s _)
        | (gi_at_builtin
           refine wpListIn_append_own _ rfl (.tmp 17) (.tmp 20) 43 rfl W0.heap.size 3 i0 _ 1 8 Try.underlying43 hi0 hz0 hz1 hz2 rfl (by decide) _ (hitsI s pre).length (ics (hitsI s pre)) rfl (own_below hown hbA) ⟨w5.heap.size, 0, none⟩ 1 1 [.int .i64 x.2.1] rfl rfl (cell_one_new _ _ _) (by simp [Value.oneCell']) (by unfold maxLen; omega) (by omega) (by simp; omega) ?_
           intro v' w6 hown6 hg6 _
           obtain ⟨g', cap', rfl⟩ := ownsRow_succ hown6
           have d2 := (d1.alloc (.cells #[.int .i64 x.2.1] 3)).kept hg6 (fun e => by have := (hol _ e.symm).1; omega)
           have e4 := d2.cell
           have f4 := d2.frozen))
      have K12 := keeps_below (B := W0.heap.size) hbA
      have K3 := keeps_row (B := W0.heap.size) (own_below hown hbA) hg6
      have up : ∀ {b t u} (z : Value), Boxed W b t u → b < W0.heap.size → b ≠ w.heap.size + 2 → Boxed (w6.setCell ⟨w.heap.size + 2, 0, none⟩ z) b t u := fun {b t u} z hbx hbk hne => by
        have h1 : Boxed _ b t u := (hbA.block b hbx.lt).trans hbx
        exact (h1.kept hg6 (fun e => by have := (hol _ e.symm).1; omega)).other hne z
      have hBW0 : Below w.heap.size W w6 := (hbA.mono hWs).grown hg6 (by simp; omega) (fun r e => by have := (hol r e).1; omega)
      have hBW := fun z => hBW0.setCell (p := ⟨w.heap.size + 2, 0, none⟩) (show w.heap.size ≤ w.heap.size + 2 by omega) z
      refine ⟨(K12.trans K3).trans ((KeepsOthers.setCell _ _ _).from _), ⟨hBW _, fun u hu => up _ hu (by omega) (by omega)⟩, ⟨_, d2.set _, up _ g2 (by omega) (by omega), ?_⟩, hB.trans (hBW _)⟩
      rw [Hsn.out, ics_append, List.length_append]
      refine hown6.kept (grownBy_setCell' _ _ _) (.inr fun e => ?_)
      have := (hown6.lt _ e).1
      omega
  case done =>
    rintro D ys W hD hS ⟨⟨v, g1, g2, hown⟩, hB⟩ hK
    rw [hits_all hS s] at hown
    have c1 := g1.cell
    have hoK := ownsRow_putObj hown (.deferred none) hK rfl
    obtain ⟨Av, cv, rfl, _, _, hrd⟩ := own_form hoK
    have hBd := hB.trans (belowK_b (w := W0) hB0.size W D (.deferred (some [])) (.deferred none) hD hK rfl rfl)
    have hlen : (downS l s).length = (downS l s).length := rfl
    gi_wp2
    refine ⟨by simp, .inl ⟨_, _, rfl, run_takeDeferred hK, ?_⟩⟩
    exact ⟨_, results_tmp rfl _ _ _, Av, _, ⟨cv, rfl⟩, hrd, hBd⟩
  case stop =>
    rintro D c pre W hD hpre hF hK
    exact hF.elim
theorem newestM_any (nm : ByteArray) (l : List Rl) (A : Option Addr) (n c : Nat) (Ai : Option Addr) (ni ci : Nat) (s : List S) (w : World) (h : RlOn w A n l) (hl : n ≤ 30) (hs : SpOn w Ai ni s) (hni : ni ≤ 1000000001) :
    Calls Try.prog 26 #[.agg #[.string nm, .slice A n c], .slice Ai ni ci] w (Tells w (.tuple #[.int .i64 ((downS l s).headD 0), .bool (decide (downS l s ≠ []))])) := by
  unfold Tells
  have HD := hide (fun (wx : World) (hb : Below w.heap.size w wx) => downM_any nm l A n c Ai ni ci s wx (h.on hb) hl (hs.on hb) hni)
  unfold MakesI at HD
  generalize downS l s = L at *
  clear h hs
  cases L with
  | nil =>
    go_enter Try.func26, Try.ntmps26
    go_wp2_with (go_at_call 24
                 refine (HD.out _ (alloc_b _)).mono ?_
                 rintro e w1 ⟨A1, n1, c1, rfl, h1, hb1⟩
                 obtain rfl : n1 = 0 := h1.len.symm
                 have hbw := (alloc_b (w := w) _).trans (hb1.mono (by simp)))
    go_ret2
    exact ⟨by simp, hbw⟩
  | cons y t =>
    go_enter Try.func26, Try.ntmps26
    go_wp2_with (go_at_call 24
                 refine (HD.out _ (alloc_b _)).mono ?_
                 rintro e w1 ⟨A1, n1, c1, rfl, h1, hb1⟩
                 have hn1 := h1.len
                 obtain ⟨k1, rfl⟩ : ∃ k, n1 = k + 1 := ⟨n1 - 1, by simp at hn1; omega⟩
                 obtain ⟨ad, z, rfl, _, hz, hc⟩ := ics_at h1 (k := 0) (by omega)
                 simp at hz
                 subst hz
                 rw [add_zero'] at hc
                 have hbw := (alloc_b (w := w) _).trans (hb1.mono (by simp))
                 clear h1 hn1 hb1)
    go_ret2
    exact ⟨by simp, hbw⟩
end Go.Proofs.Ytajgjkjhaafnfaa.Mani
/-
  Contracts of the document's Down and Ints: the versions in a set; two lists of numbers that are alike. Condition: a set; releases of a number that may be walked.
-/
namespace Go.Proofs.Ytajgjkjhaafnfaa.Mani
open Go Go.RowKit Go.Lib Go.Proofs.Ytajgjkjhaafnfaa.Span Go.Proofs.Ytajgjkjhaafnfaa.Need
set_option linter.unusedVariables false
theorem own_ints {w : World} {B n : Nat} {v : Value} {L : List Int} (h : w.ownsRow B 3 1 v n (ics L)) : ∃ A c, v = .slice A n c ∧ n ≤ c ∧ IntOn w A n L := by
  obtain ⟨A, c, rfl, hc, hm, hr⟩ := own_form h
  exact ⟨A, c, rfl, hc, hr⟩
set_option maxHeartbeats 4000000 in
set_option maxRecDepth 100000 in
theorem refDownM_any (nm : ByteArray) (l : List Rl) (A : Option Addr) (n c : Nat) (Ai : Option Addr) (ni ci : Nat) (s : List S) (w : World) (h : RlOn w A n l) (hl : n ≤ 30) (hs : SpOn w Ai ni s) (hset : isSet (-1) s = true) :
    Calls Try.prog 25 #[.agg #[.string nm, .slice A n c], .slice Ai ni ci] w (MakesI w (downS l s)) := by
  unfold MakesI
  obtain ⟨i0, hi0, hz0, hz1, hz2⟩ := info_parts info_int
  have Hlen := hide h.len
  obtain ⟨L, hL⟩ : ∃ L, L = downS l s := ⟨_, rfl⟩
  rw [← hL]
  have HL := hide hL
  clear hL
  go_enter Try.func25, Try.ntmps25
  go_wp2
  go_loopw [5, 6] (fun u v wr => ∃ (z : Int) (k m : Nat) (out : List Int), v = .int .i64 z ∧ z = (k : Int) - 1 ∧ k ≤ n ∧ wr.ownsRow w.heap.size 3 1 u m (ics out) ∧ m + k ≤ n ∧ Hid (out ++ downS (l.take k) s = L) ∧ Blk wr w.heap.size 24 #[.string nm, .slice A n c] ∧ Below w.heap.size w wr) (fun _ v _ => (RowKit.intOf v + 1).toNat)
  case atStart => exact ⟨(n : Int) - 1, n, 0, [], by go_num, rfl, Nat.le_refl _, World.ownsRow_nil _ _ _ _, by omega, hide (by rw [List.take_of_length_le (by rw [Hlen.out]; exact Nat.le_refl _), HL.out]; rfl), Blk.new _ _ _, (Below.refl _ _).alloc (Nat.le_refl _) _⟩
  case round =>
    obtain ⟨z, k, m, out, rfl, hz, hk, hown, hmk, hout, hm, hb⟩ := hrel
    have hbs := hb.size
    have m1 := hm.cell 1
    obtain ⟨Ax, cx, rfl, hcx, hrd⟩ := own_ints hown
    cases k with
    | zero =>
      have hzz : ¬ (0 : Int) ≤ z := by omega
      have hL2 : out = L := by have := hout.out; simpa [downS] using this
      subst hL2
      clear hz hout h HL
      go_wp2
      go_ret
      exact ⟨Ax, m, ⟨cx, rfl⟩, hrd, hb⟩
    | succ j =>
      have hj : j < n := by omega
      obtain ⟨ad, q, A', n', c', rfl, hbl, hx, hq, c1, c2⟩ := RlIn.at_ (RlIn.below h hb) hj
      have hstep : downS (l.take (j + 1)) s = (if has s q.1 = true then [q.1] else []) ++ downS (l.take j) s := by rw [take_snoc' l j q hx, downS_snoc]
      have hout2 := hout.out
      rw [hstep, ← List.append_assoc] at hout2
      obtain ⟨y, ns⟩ := q
      simp only [] at c1 c2 hout2
      have HH := hide (refHas_on (c := ci) (w := wr) y (hs.on (hb.mono (Nat.le_refl _))) (SpOn.le hs hset) hset)
      obtain rfl : z = (j : Int) := by omega
      have hj0 : (0 : Int) ≤ (j : Int) := by omega
      have hw2 : IntKind.i64.wrap ((j : Int) - 1) = (j : Int) - 1 := by rw [IntKind.wrap_i64]; omega
      unfold Tells at HH
      clear hz hx hq hstep hout h HL hrd
      cases g : has s y with
      | false =>
        rw [g] at HH hout2
        simp only [Bool.false_eq_true, if_false, List.append_nil] at hout2
        have Ho := hide hout2
        clear hout2 g
        go_wp2_with (go_at_call 51
                     refine HH.out.mono ?_
                     rintro e w1 ⟨rfl, hb1⟩
                     have hbw := hb.trans (hb1.mono hbs)
                     have hm1 := hm.below hb1 hm.lt
                     have ho1 := own_below hown hb1)
        go_roundw
        case rel => exact ⟨(j : Int) - 1, j, m, out, by go_num, rfl, by omega, ho1, by omega, Ho, hm1, hbw⟩
        case measure => simp [RowKit.intOf]
      | true =>
        rw [g] at HH hout2
        simp only [if_true] at hout2
        have Ho := hide hout2
        clear hout2 g
        go_wp2_with (first
          | (go_at_call 51
             refine HH.out.mono ?_
             rintro e w1 ⟨rfl, hb1⟩
             have hbw := hb.trans (hb1.mono hbs)
             have hbs1 := hbw.size
             have hm1 := hm.below hb1 hm.lt
             have k1 := hm1.cell 1
             have d1 := (hb1.cell (p := ad.add (j * 2)) (by rw [block_of_add]; omega)).trans c1
             have ho1 := own_below hown hb1
             have hoA := own_below ho1 (alloc_b (.cells #[.int .i64 y] 3)))
          | (at_builtin
             refine wpList_append_any _ rfl (.tmp 23) (.tmp 30) _ rfl w.heap.size 3 i0 _ 1 8 Try.underlying43 hi0 hz0 hz1 hz2 rfl (by omega) _ m (ics out) rfl hoA _ _ 1 _ _ rfl (Reads.new1 w1 3 (.int .i64 y)) (one_cell _ _) (by unfold maxLen; omega) (by omega) (by simp; omega) ?_
             intro v2 w3 hown3 hg3 _
             have hb3 : Below w.heap.size w w3 := (hbw.alloc hbs1 _).grown hg3 (by simp; omega) (fun k hk => (hoA.lt k hk).1)
             have hm3 : Blk w3 w.heap.size 24 #[.string nm, .slice (some ad) n c] := (hm1.alloc _).grown hg3 (farT_own hoA (T := 24) (by decide) _ _ _ (hm1.alloc _))))
        go_roundw
        case rel => exact ⟨(j : Int) - 1, j, m + 1, out ++ [y], by go_num, rfl, by omega, by rw [ics_append]; exact hown3, by omega, Ho, hm3, hb3⟩
        case measure => simp [RowKit.intOf]
end Go.Proofs.Ytajgjkjhaafnfaa.Mani
/-
  Contracts of the document's Ints and Names2, at two lists that are alike: true. Condition: lists of a length that may be walked.
-/
namespace Go.Proofs.Ytajgjkjhaafnfaa.Mani
open Go Go.RowKit Go.Lib Go.Proofs.Ytajgjkjhaafnfaa.Span Go.Proofs.Ytajgjkjhaafnfaa.Need
set_option linter.unusedVariables false
/-- Texts as cells. -/
def tcs (l : List ByteArray) : List Value := l.map Value.string
theorem tcs_append (l m : List ByteArray) : tcs (l ++ m) = tcs l ++ tcs m := by simp [tcs]
theorem tcs_length (l : List ByteArray) : (tcs l).length = l.length := by simp [tcs]
/-- A slice that reads as texts in the world at hand. -/
def TxOn (w : World) (A : Option Addr) (n : Nat) (L : List ByteArray) : Prop := Reads w w.heap.size 1 A n (tcs L)
theorem TxOn.on {w w' : World} {A : Option Addr} {n : Nat} {L : List ByteArray} (h : TxOn w A n L) (hb : Below w.heap.size w w') : TxOn w' A n L := (Reads.below h hb).more hb.size
theorem TxOn.len {w : World} {A : Option Addr} {n : Nat} {L : List ByteArray} (h : TxOn w A n L) : L.length = n := by
  have := h.1
  rw [tcs_length] at this
  omega
theorem tcs_at {w : World} {B n k : Nat} {A : Option Addr} {l : List ByteArray} (h : Reads w B 1 A n (tcs l)) (hk : k < n) : ∃ ad z, A = some ad ∧ ad.block < B ∧ l[k]? = some z ∧ w.cell? (ad.add k) = some (.string z) := by
  obtain ⟨ad, u, hA, hb, hx, hc⟩ := h.at_ hk
  simp only [tcs, List.getElem?_map, Option.map_eq_some_iff] at hx
  obtain ⟨z, hz, rfl⟩ := hx
  exact ⟨ad, z, hA, hb, hz, hc⟩
def MakesT (w : World) (L : List ByteArray) (e : Ending) (w' : World) : Prop := ∃ A n c, e = .returned (.slice A n c) ∧ TxOn w' A n L ∧ Below w.heap.size w w'
set_option maxHeartbeats 2000000 in
set_option maxRecDepth 100000 in
theorem ints_yes (L : List Int) (A A' : Option Addr) (n c n' c' : Nat) (w : World) (h : IntOn w A n L) (h' : IntOn w A' n' L) (hn : n ≤ 140737488355328) :
    Calls Try.prog 23 #[.slice A n c, .slice A' n' c'] w (Tells w (.bool true)) := by
  unfold Tells
  obtain rfl : n = n' := by rw [← h.len, ← h'.len]
  go_enter Try.func23, Try.ntmps23
  go_wp2
  go_loopw [5] (fun v wr => ∃ (i : Nat), i ≤ n ∧ v = .int .i64 (i : Int) ∧ Below w.heap.size w wr) (fun v _ => n - (RowKit.intOf v).toNat)
  case atStart => exact ⟨0, by omega, rfl, Below.refl _ _⟩
  case round =>
    obtain ⟨i, hi, rfl, hb⟩ := hrel
    by_cases hlt : i < n
    · obtain ⟨ad, x, rfl, _, hx, hc⟩ := ics_at (h.on hb) hlt
      obtain ⟨ad', x', rfl, _, hx', hc'⟩ := ics_at (h'.on hb) hlt
      rw [hx] at hx'
      injection hx' with hx'
      subst hx'
      have hi1 : (0 : Int) ≤ (i : Int) := by omega
      have hi2 : (i : Int) < (n : Int) := by omega
      have e1 : (x != x) = false := bne_self_eq_false x
      clear hx
      go_upto_region 6 with fail
      go_quiet (fail)
      go_wp2
      go_roundw
      case rel => exact ⟨i + 1, by omega, by go_num, by first | exact below_drewN hb _ | exact hb⟩
      case measure => simp [RowKit.intOf]; omega
    · have hi2 : i = n := by omega
      go_wp2
      go_ret
      exact ⟨rfl, hb⟩
set_option maxHeartbeats 2000000 in
set_option maxRecDepth 100000 in
theorem names2_yes (L : List ByteArray) (A A' : Option Addr) (n c n' c' : Nat) (w : World) (h : TxOn w A n L) (h' : TxOn w A' n' L) (hn : n ≤ 140737488355328) :
    Calls Try.prog 20 #[.slice A n c, .slice A' n' c'] w (Tells w (.bool true)) := by
  unfold Tells
  obtain rfl : n = n' := by rw [← h.len, ← h'.len]
  go_enter Try.func20, Try.ntmps20
  go_wp2
  go_loopw [5] (fun v wr => ∃ (i : Nat), i ≤ n ∧ v = .int .i64 (i : Int) ∧ Below w.heap.size w wr) (fun v _ => n - (RowKit.intOf v).toNat)
  case atStart => exact ⟨0, by omega, rfl, Below.refl _ _⟩
  case round =>
    obtain ⟨i, hi, rfl, hb⟩ := hrel
    by_cases hlt : i < n
    · obtain ⟨ad, x, rfl, _, hx, hc⟩ := tcs_at (h.on hb) hlt
      obtain ⟨ad', x', rfl, _, hx', hc'⟩ := tcs_at (h'.on hb) hlt
      rw [hx] at hx'
      injection hx' with hx'
      subst hx'
      have hi1 : (0 : Int) ≤ (i : Int) := by omega
      have hi2 : (i : Int) < (n : Int) := by omega
      have e1 : (x.toList == x.toList) = true := beq_self_eq_true _
      have e2 : (x.toList != x.toList) = false := bne_self_eq_false _
      clear hx
      go_upto_region 6 with fail
      go_quiet (fail)
      go_wp2
      go_roundw
      case rel => exact ⟨i + 1, by omega, by go_num, by first | exact below_drewN hb _ | exact hb⟩
      case measure => simp [RowKit.intOf]; omega
    · have hi2 : i = n := by omega
      go_wp2
      go_ret
      exact ⟨rfl, hb⟩
end Go.Proofs.Ytajgjkjhaafnfaa.Mani
/-
  The chapter's examples (awake): they hold. No condition.
-/
namespace Go.Proofs.Ytajgjkjhaafnfaa.Mani
open Go Go.RowKit Go.Lib Go.Proofs.Ytajgjkjhaafnfaa.Span Go.Proofs.Ytajgjkjhaafnfaa.Need
open Go.Proofs.Ytajgjkjhaafnfaa.Label (runes fitL runes_step runes_end rn wd)
set_option linter.unusedVariables false
def exL : List Rl := [(1000000, []), (2000000, [])]
theorem fit_a : fitL (runes (str [97]) 0) = true := by
  rw [runes_step _ _ (by decide), runes_end _ _ (by decide)]
  decide
theorem ex_ok : okM (str [97]) exL = true := by
  unfold okM
  rw [fit_a]
  decide
theorem ex_down1 : downS exL [(0, 2000000)] = [1000000] := by decide
theorem ex_down2 : downS exL [(0, 1000000000)] = [2000000, 1000000] := by decide
theorem ex_on (w : World) (g : Nat) (hg : g = w.heap.size) : RlOn (w.alloc (.cells #[.int .i64 1000000, .slice none 0 0, .int .i64 2000000, .slice none 0 0] 33)) (some ⟨g, 0, none⟩) 2 exL := by
  subst hg
  have h := Reads.newL w 33 #[.int .i64 1000000, .slice none 0 0, .int .i64 2000000, .slice none 0 0]
  refine ⟨[(1000000, .slice none 0 0), (2000000, .slice none 0 0)], ⟨rfl, fun _ => ?_⟩, rfl, fun i r q hr hq => ?_⟩
  · obtain ⟨ad, hA, hb, hc⟩ := h.2 (by simp)
    exact ⟨ad, hA, by simpa using hb, hc⟩
  · rcases i with _ | i
    · simp [exL] at hr hq
      subst hr hq
      exact ⟨rfl, none, 0, 0, rfl, NdIn.nil _ _ _⟩
    · rcases i with _ | i
      · simp [exL] at hr hq
        subst hr hq
        exact ⟨rfl, none, 0, 0, rfl, NdIn.nil _ _ _⟩
      · simp at hr
theorem ex_fine : FineR exL := ⟨by decide, fun q hq => by
  simp only [exL, List.mem_cons, List.not_mem_nil, or_false] at hq
  rcases hq with rfl | rfl <;> exact ⟨by decide, fun r hr => by cases hr⟩⟩
set_option maxHeartbeats 4000000 in
set_option maxRecDepth 100000 in
theorem awakeM_any (w : World) : Calls Try.prog 7 #[] w (Tells w (.bool true)) := by
  unfold Tells
  go_enter Try.func7, Try.ntmps7
  go_upto_region 2 with fail
  obtain ⟨W2, hW2⟩ : ∃ W2, W2 = (w.alloc (.cells #[.int .i64 1000000, .slice none 0 0, .int .i64 2000000, .slice none 0 0] 33)).alloc (.cells #[.string ⟨#[97]⟩, .slice (some ⟨w.heap.size, 0, none⟩) 2 2] 24) := ⟨_, rfl⟩
  have hM : Blk W2 (w.heap.size + 1) 24 #[.string ⟨#[97]⟩, .slice (some ⟨w.heap.size, 0, none⟩) 2 2] := by
    rw [hW2]
    have := Blk.new (w.alloc (.cells #[.int .i64 1000000, .slice none 0 0, .int .i64 2000000, .slice none 0 0] 33)) 24 #[.string ⟨#[97]⟩, .slice (some ⟨w.heap.size, 0, none⟩) 2 2]
    rwa [World.size_alloc] at this
  have hR : RlOn W2 (some ⟨w.heap.size, 0, none⟩) 2 exL := by rw [hW2]; exact (ex_on w _ rfl).on (alloc_b _)
  have hb2 : Below w.heap.size w W2 := by rw [hW2]; exact ((Below.refl _ _).alloc (Nat.le_refl _) _).alloc (by simp) _
  rw [← hW2]
  have k0 := hM.cell 0
  have k1 := hM.cell 1
  clear hW2
  have h1 : Hid (Calls Try.prog 26 #[.agg #[.string ⟨#[97]⟩, .slice (some ⟨w.heap.size, 0, none⟩) 2 2], .slice (some ⟨W2.heap.size, 0, none⟩) 1 1] (W2.alloc (.cells #[.int .i64 0, .int .i64 2000000] 55)) fun e w' => e = .returned (.tuple #[.int .i64 1000000, .bool true]) ∧ Below (W2.alloc (.cells #[.int .i64 0, .int .i64 2000000] 55)).heap.size (W2.alloc (.cells #[.int .i64 0, .int .i64 2000000] 55)) w') := hide (by
    have := newestM_any (str [97]) exL (some ⟨w.heap.size, 0, none⟩) 2 2 (some ⟨W2.heap.size, 0, none⟩) 1 1 _ _ (hR.on (alloc_b _)) (by omega) (spOn_one W2 0 2000000 _ rfl) (by omega)
    rw [ex_down1] at this
    exact this)
  have H2 : Hid (∀ w3, Below W2.heap.size W2 w3 → Calls Try.prog 24 #[.agg #[.string ⟨#[97]⟩, .slice (some ⟨w.heap.size, 0, none⟩) 2 2], .slice (some ⟨w3.heap.size, 0, none⟩) 1 1] (w3.alloc (.cells #[.int .i64 0, .int .i64 1000000000] 55)) (MakesI (w3.alloc (.cells #[.int .i64 0, .int .i64 1000000000] 55)) [2000000, 1000000])) := hide (fun w3 hb => by
    have := downM_any (str [97]) exL (some ⟨w.heap.size, 0, none⟩) 2 2 (some ⟨w3.heap.size, 0, none⟩) 1 1 _ _ ((hR.on hb).on (alloc_b _)) (by omega) (spOn_one w3 0 1000000000 _ rfl) (by omega)
    rw [ex_down2] at this
    exact this)
  have H3 : Hid (∀ w4, Below W2.heap.size W2 w4 → Calls Try.prog 8 #[.agg #[.string ⟨#[97]⟩, .slice (some ⟨w.heap.size, 0, none⟩) 2 2]] w4 fun e w' => e = .returned (.bool true) ∧ Below w4.heap.size w4 w') := hide (fun w4 hb => by
    have := checkM_any (str [97]) exL (some ⟨w.heap.size, 0, none⟩) 2 2 w4 (hR.on hb) ex_fine (by decide)
    rw [ex_ok] at this
    exact this)
  unfold MakesI at H2
  clear hR
  go_wp2_with (first
    | (go_at_call 8
       refine (H3.out _ hb4).mono ?_
       rintro e w5 ⟨rfl, hb5⟩
       have hb5' := hb4.trans (hb5.mono hb4.size)
       have h2' := h2.on hb5
       obtain ⟨ad, z, rfl, _, hz, hc⟩ := ics_at h2' (k := 0) (by omega)
       simp at hz
       subst hz
       rw [add_zero'] at hc)
    | (go_at_call 24
       refine (H2.out _ hb3).mono ?_
       rintro e w4 ⟨A4, n4, c4, rfl, h2, hb4'⟩
       obtain rfl : n4 = 2 := h2.len.symm
       have hb4 : Below W2.heap.size W2 w4 := hb3.trans (((alloc_b _).trans (hb4'.mono (by simp))).mono hb3.size)
       have hM4 := hM.below hb4 hM.lt
       have k4 := hM4.cell 0
       have k5 := hM4.cell 1)
    | (go_at_call 26
       refine h1.out.mono ?_
       rintro e w3 ⟨rfl, hb3'⟩
       have hb3 : Below W2.heap.size W2 w3 := (alloc_b _).trans (hb3'.mono (by simp))
       have hM3 := hM.below hb3 hM.lt
       have k2 := hM3.cell 0
       have k3 := hM3.cell 1))
  go_ret
  exact ⟨rfl, hb2.trans (hb5'.mono hb2.size)⟩
end Go.Proofs.Ytajgjkjhaafnfaa.Mani
