/-
  Some texts of this claim, one behind the other: ManiDown, ManiRefDown, PlainRefDown, PlainDown. What each proves, and its condition, stands at its head.
-/
import Derived.Test.YtmoeilkaadnnoaaGreatZ24
import Derived.Test.YtmoeilkaadnnoaaGreatZ14
import Derived.Test.YtmoeilkaadnnoaaGreatZ18
/-
  Contracts of Down and Newest: the versions in a set, the newest first; the newest one. Condition: releases of a number that may be walked.
-/
namespace Go.Proofs.YtmoeilkaadnnoaaGreat.Mani
open Go Go.RowKit Go.Lib Go.Proofs.YtmoeilkaadnnoaaGreat.Span Go.Proofs.YtmoeilkaadnnoaaGreat.Need
set_option linter.unusedVariables false
attribute [local go_sem] Oper.semAt_some
/-- What has been kept. -/
def hitsI (s : List S) (pre : List It) : List Int := (pre.map verI).filter (has s)
theorem hits_snoc (s : List S) (pre : List It) (x : It) : hitsI s (pre ++ [x]) = hitsI s pre ++ if has s (verI x) = true then [verI x] else [] := by
  unfold hitsI
  rw [List.map_append, List.filter_append]
  congr 1
  simp only [List.map_cons, List.map_nil, List.filter_cons, List.filter_nil]
theorem hits_len (s : List S) (pre : List It) : (hitsI s pre).length ≤ pre.length := by
  have := List.length_filter_le (has s) (pre.map verI)
  rw [List.length_map] at this
  exact this
theorem down_filter (l : List Rl) (s : List S) : (l.map Prod.fst).reverse.filter (has s) = downS l s := by
  induction l with
  | nil => rfl
  | cons x t ih =>
    rw [List.map_cons, List.reverse_cons, List.filter_append, ih, downS]
    congr 1
    simp only [List.filter_cons, List.filter_nil]
theorem hits_all {l : List Rl} {ys : List It} (h : AllI l ys) (s : List S) : hitsI s ys = downS l s := by
  unfold hitsI
  rw [show ys.map verI = _ from h, down_filter]
/-- A slice that reads as numbers in the world at hand. -/
def IntOn (w : World) (A : Option Addr) (n : Nat) (L : List Int) : Prop := Reads w w.heap.size 1 A n (ics L)
theorem IntOn.on {w w' : World} {A : Option Addr} {n : Nat} {L : List Int} (h : IntOn w A n L) (hb : Below w.heap.size w w') : IntOn w' A n L := (Reads.below h hb).more hb.size
theorem IntOn.len {w : World} {A : Option Addr} {n : Nat} {L : List Int} (h : IntOn w A n L) : L.length = n := by
  have := h.1
  rw [ics_length] at this
  omega
def MakesI (w : World) (L : List Int) (e : Ending) (w' : World) : Prop := ∃ A n c, e = .returned (.slice A n c) ∧ IntOn w' A n L ∧ Below w.heap.size w w'
theorem ics_append (l m : List Int) : ics (l ++ m) = ics l ++ ics m := by simp [ics]
theorem keeps_below {B : Nat} {W W' : World} (h : Below W.heap.size W W') : KeepsFrom B W W' := ⟨h.size, fun k o _ hk _ => (h.block k (Array.getElem?_eq_some_iff.1 hk).1).trans hk⟩
theorem keeps_row {B base size n : Nat} {e : TypeId} {v : Value} {xs : List Value} {W W' : World} (h : W.ownsRow base e size v n xs) (hg : W.grownBy W' v.ownBlock) : KeepsFrom B W W' :=
  ⟨hg.size, fun k o _ hk hc => (hg.block k (Array.getElem?_eq_some_iff.1 hk).1 (fun e' => by
    rcases h.2 with ⟨rfl, _⟩ | ⟨g, cap, cur, rfl, _, hgb, _⟩
    · cases e'
    · simp only [Value.ownBlock, Option.some.injEq] at e'
      subst e'
      rw [hgb] at hk; cases hk; cases hc)).trans hk⟩
set_option maxRecDepth 100000 in
set_option maxHeartbeats 4000000 in
theorem downM_any (nm : ByteArray) (l : List Rl) (A : Option Addr) (n c : Nat) (Ai : Option Addr) (ni ci : Nat) (s : List S) (w : World) (h : RlOn w A n l) (hl : n ≤ 30) (hs : SpOn w Ai ni s) (hni : ni ≤ 1000000001) :
    Calls Tryz.prog 77 #[.agg #[.string nm, .slice A n c], .slice Ai ni ci] w (MakesI w (downS l s)) := by
  unfold MakesI
  obtain ⟨i0, hi0, hz0, hz1, hz2⟩ := info_parts info_int
  have hbk := hide (fun wx => back_any A n c wx)
  obtain ⟨H, hH⟩ : ∃ H, H = w.heap.size := ⟨_, rfl⟩
  refine (callsIn_wide (n := 9)).1 ?_
  refine callsIn_of_wp_marks Tryz.func77 rfl trivial ?_ rfl
  simp only [Tryz.ntmps77, List.size_toArray, List.length_cons, List.length_nil, Nat.reduceAdd, Nat.reduceSub, Array.replicate_succ, Array.replicate_zero, List.push_toArray, List.append_toArray, List.nil_append, List.cons_append]
  gi_wp2_with (refine ⟨trivial, ?_⟩; gi_at_call 101; refine (callsIn_wide.2 (hbk.out _)).mono ?_; rintro e w2 ⟨rfl, rfl⟩)
  obtain ⟨W0, hW0⟩ : ∃ W0, W0 = ((((w.alloc (.cells #[.string nm, .slice A n c] 77)).alloc (.cells #[.slice Ai ni ci] 46)).alloc (.cells #[.slice none 0 0] 97)).alloc (.cells #[.slice A n c] 75)) := ⟨_, rfl⟩
  have hsz0 : W0.heap.size = w.heap.size + 4 := by rw [hW0]; simp
  have hB0 : Below w.heap.size w W0 := by
    rw [hW0]
    exact ((((Below.refl _ _).alloc (Nat.le_refl _) _).alloc (by simp) _).alloc (by simp; omega) _).alloc (by simp; omega) _
  have b1 : Boxed W0 (w.heap.size + 1) 46 (.slice Ai ni ci) := by
    rw [hW0]
    have := ((Boxed.new (w.alloc (.cells #[.string nm, .slice A n c] 77)) 46 (.slice Ai ni ci)).alloc (.cells #[.slice none 0 0] 97)).alloc (.cells #[.slice A n c] 75)
    rwa [World.size_alloc] at this
  have b2 : Boxed W0 (w.heap.size + 2) 97 (.slice none 0 0) := by
    rw [hW0]
    have := (Boxed.new ((w.alloc (.cells #[.string nm, .slice A n c] 77)).alloc (.cells #[.slice Ai ni ci] 46)) 97 (.slice none 0 0)).alloc (.cells #[.slice A n c] 75)
    rwa [World.size_alloc, World.size_alloc] at this
  have b3 : Boxed W0 (w.heap.size + 3) 75 (.slice A n c) := by
    rw [hW0]
    have := Boxed.new (((w.alloc (.cells #[.string nm, .slice A n c] 77)).alloc (.cells #[.slice Ai ni ci] 46)).alloc (.cells #[.slice none 0 0] 97)) 75 (.slice A n c)
    rwa [World.size_alloc, World.size_alloc, World.size_alloc] at this
  try rw [← hW0]
  clear hW0 hbk
  refine wpIn_rangeFunc_ownH rfl (by omega) (gf := 127) (lb := #[.pointer (some ⟨w.heap.size + 3, 0, none⟩)]) rfl trivial (enters_of Tryz.func127 (by kernel_rfl) rfl)
    (back_stops l A n c w.heap.size (w.heap.size + 3) _ (by omega) (by omega) W0 (RlIn.below h hB0) hB0.size b3) kpI_t (kpI_b hB0.size (by omega)) (Below.refl _ _) (fun _ => rfl)
    (fun pre W => (∃ v, Boxed W (w.heap.size + 2) 97 v ∧ Boxed W (w.heap.size + 1) 46 (.slice Ai ni ci) ∧ W.ownsRow W0.heap.size 3 1 v (hitsI s pre).length (ics (hitsI s pre))) ∧ Below w.heap.size w W)
    (fun c pre W => False)
    (fun pre X Y row ⟨⟨v, g1, g2, g3⟩, hB⟩ hg hr => ⟨⟨v, g1.kept hg (fun e => by have := (hr _ e.symm).1; omega), g2.kept hg (fun e => by have := (hr _ e.symm).1; omega), g3.kept hg (by
        rcases g3.2 with ⟨rfl, _⟩ | ⟨g, cap, cur, rfl, _, hgb, _⟩
        · exact .inl rfl
        · refine .inr fun e' => ?_
          obtain ⟨_, o, ho, hc⟩ := hr g (by simpa [Value.ownBlock] using e'.symm)
          rw [hgb] at ho; cases ho; cases hc)⟩, hB.grown hg hB.size (fun r e => by have := (hr r e).1; omega)⟩)
    (fun c pre X Y row hF _ _ => hF)
    ⟨⟨_, b2, b1, World.ownsRow_nil _ _ _ _⟩, hB0⟩
    (fun x a' W => ∃ Bx, Blk W Bx 116 #[.int .i64 x.2.1, .slice x.2.2.1 x.2.2.2.1 x.2.2.2.2] ∧ a' = { tmps := #[.agg #[.string nm, .slice A n c], .slice Ai ni ci, .pointer (some ⟨w.heap.size, 0, none⟩), .pointer (some ⟨w.heap.size + 1, 0, none⟩), .slice none 0 0, .pointer (some ⟨w.heap.size + 2, 0, none⟩), undef, .pointer (some ⟨Bx, 0, none⟩), .pointer (some ⟨w.heap.size, 1, none⟩), .slice A n c, .func (.func 127) #[] #[.pointer (some ⟨w.heap.size + 3, 0, none⟩)], .int .i64 (x.1 : Int), .agg #[.int .i64 x.2.1, .slice x.2.2.1 x.2.2.2.1 x.2.2.2.2], undef, undef, undef, undef, undef, undef, undef, undef, undef, undef], defers := [] })
    (fun x a' _ X Y row ⟨Bx, g2, g3⟩ hg hr => ⟨Bx, g2.grown hg (fun e => by
        obtain ⟨_, o, ho, hc⟩ := hr _ e.symm
        rw [show X.heap[Bx]? = _ from g2] at ho; cases ho; cases hc), g3⟩)
    ?assign ?body ?done ?stop
  case assign =>
    rintro lx pre x W K ⟨⟨v, g1, g2, g3⟩, hB⟩ hK
    unfold encI
    gi_wp2
    exact hK _ _ ((KeepsOthers.alloc _ _).from _) ⟨(Below.refl _ W).alloc hB.size _, fun u hu => hu.alloc _⟩ ⟨⟨v, g1.alloc _, g2.alloc _, own_below g3 (alloc_b _)⟩, hB.alloc hB.size _⟩ ⟨W.heap.size, Blk.new _ _ _, rfl⟩
  case body =>
    rintro lx pre x a' W hlx ⟨r, hr⟩ ⟨⟨v, g1, g2, hown⟩, hB⟩ ⟨Bx, hk, rfl⟩ hlt
    have HS := hide (has_on (c := ci) x.2.1 (SpOn.on hs hB) hni)
    have hsn := hits_snoc s pre x
    have hpl := hits_len s pre
    have hver : verI x = x.2.1 := rfl
    rw [hver] at hsn
    have c1 := g1.cell
    have c2 := g2.cell
    have k0 := hk.cell 0
    have hWs := hB.size
    have hlt1 := g1.lt
    have hlt2 := g2.lt
    have hltk := hk.lt
    unfold Tells at HS
    cases hh : has s x.2.1 with
    | false =>
      rw [hh] at HS hsn
      simp only [Bool.false_eq_true, if_false, List.append_nil] at hsn
      have Hsn := hide hsn
      clear hsn
      gi_wp2_with (refine ⟨trivial, ?_⟩
                   gi_at_call 75
                   refine (CallsIn.inRound lx (callsIn_wide.2 HS.out)).mono ?_
                   rintro e w5 ⟨rfl, hb5⟩)
      exact ⟨keeps_below hb5, ⟨hb5.mono hWs, fun u hu => (hb5.block _ hu.lt).trans hu⟩, ⟨v, (hb5.block _ g1.lt).trans g1, (hb5.block _ g2.lt).trans g2, by rw [Hsn.out]; exact own_below hown hb5⟩, hB.trans (hb5.mono hWs)⟩
    | true =>
      rw [hh] at HS hsn
      simp only [if_true] at hsn
      have Hsn := hide hsn
      clear hsn
      have hol := hown.lt
      gi_wp2_with (first
        | (refine ⟨trivial, ?_⟩
           gi_at_call 75
           refine (CallsIn.inRound lx (callsIn_wide.2 HS.out)).mono ?_
           rintro e w5 ⟨rfl, hb5⟩
           have h5s := hb5.size
           have d1 : Boxed w5 (w.heap.size + 2) 97 v := (hb5.block _ hlt1).trans g1
           have e1 := d1.cell
           have dk : Blk w5 Bx 116 _ := hk.below hb5 hltk
           have e2 := dk.cell 0
           have e3 : ∀ o, (w5.alloc o).cell? ⟨w.heap.size + 2, 0, none⟩ = some v := fun o => (d1.alloc o).cell
           have hbA : Below W.heap.size W (w5.alloc (.cells #[.int .i64 x.2.1] 3)) := hb5.alloc h5s _)
        | (gi_at_builtin
           refine wpListIn_append_own _ rfl (.tmp 17) (.tmp 20) 97 rfl W0.heap.size 3 i0 _ 1 8 Tryz.underlying97 hi0 hz0 hz1 hz2 rfl (by decide) _ (hitsI s pre).length (ics (hitsI s pre)) rfl (own_below hown hbA) ⟨w5.heap.size, 0, none⟩ 1 1 [.int .i64 x.2.1] rfl rfl (cell_one_new _ _ _) (by simp [Value.oneCell']) (by unfold maxLen; omega) (by omega) (by simp; omega) ?_
           intro v' w6 hown6 hg6 _
           obtain ⟨g', cap', rfl⟩ := ownsRow_succ hown6
           have d2 := (d1.alloc (.cells #[.int .i64 x.2.1] 3)).kept hg6 (fun e => by have := (hol _ e.symm).1; omega)
           have e4 := d2.cell
           have f4 := d2.frozen))
      have K12 := keeps_below (B := W0.heap.size) hbA
      have K3 := keeps_row (B := W0.heap.size) (own_below hown hbA) hg6
      have up : ∀ {b t u} (z : Value), Boxed W b t u → b < W0.heap.size → b ≠ w.heap.size + 2 → Boxed (w6.setCell ⟨w.heap.size + 2, 0, none⟩ z) b t u := fun {b t u} z hbx hbk hne => by
        have h1 : Boxed _ b t u := (hbA.block b hbx.lt).trans hbx
        exact (h1.kept hg6 (fun e => by have := (hol _ e.symm).1; omega)).other hne z
      have hBW0 : Below w.heap.size W w6 := (hbA.mono hWs).grown hg6 (by simp; omega) (fun r e => by have := (hol r e).1; omega)
      have hBW := fun z => hBW0.setCell (p := ⟨w.heap.size + 2, 0, none⟩) (show w.heap.size ≤ w.heap.size + 2 by omega) z
      refine ⟨(K12.trans K3).trans ((KeepsOthers.setCell _ _ _).from _), ⟨hBW _, fun u hu => up _ hu (by omega) (by omega)⟩, ⟨_, d2.set _, up _ g2 (by omega) (by omega), ?_⟩, hB.trans (hBW _)⟩
      rw [Hsn.out, ics_append, List.length_append]
      refine hown6.kept (grownBy_setCell' _ _ _) (.inr fun e => ?_)
      have := (hown6.lt _ e).1
      omega
  case done =>
    rintro D ys W hD hS ⟨⟨v, g1, g2, hown⟩, hB⟩ hK
    rw [hits_all hS s] at hown
    have c1 := g1.cell
    have hoK := ownsRow_putObj hown (.deferred none) hK rfl
    obtain ⟨Av, cv, rfl, _, _, hrd⟩ := own_form hoK
    have hBd := hB.trans (belowK_b (w := W0) hB0.size W D (.deferred (some [])) (.deferred none) hD hK rfl rfl)
    have hlen : (downS l s).length = (downS l s).length := rfl
    gi_wp2
    refine ⟨by simp, .inl ⟨_, _, rfl, run_takeDeferred hK, ?_⟩⟩
    exact ⟨_, results_tmp rfl _ _ _, Av, _, ⟨cv, rfl⟩, hrd, hBd⟩
  case stop =>
    rintro D c pre W hD hpre hF hK
    exact hF.elim
end Go.Proofs.YtmoeilkaadnnoaaGreat.Mani
/-
  Contracts of the document's Down and Ints: the versions in a set; two lists of numbers that are alike. Condition: a set; releases of a number that may be walked.
-/
namespace Go.Proofs.YtmoeilkaadnnoaaGreat.Mani
open Go Go.RowKit Go.Lib Go.Proofs.YtmoeilkaadnnoaaGreat.Span Go.Proofs.YtmoeilkaadnnoaaGreat.Need
set_option linter.unusedVariables false
theorem own_ints {w : World} {B n : Nat} {v : Value} {L : List Int} (h : w.ownsRow B 3 1 v n (ics L)) : ∃ A c, v = .slice A n c ∧ n ≤ c ∧ IntOn w A n L := by
  obtain ⟨A, c, rfl, hc, hm, hr⟩ := own_form h
  exact ⟨A, c, rfl, hc, hr⟩
set_option maxHeartbeats 4000000 in
set_option maxRecDepth 100000 in
theorem refDownM_any (nm : ByteArray) (l : List Rl) (A : Option Addr) (n c : Nat) (Ai : Option Addr) (ni ci : Nat) (s : List S) (w : World) (h : RlOn w A n l) (hl : n ≤ 30) (hs : SpOn w Ai ni s) (hset : isSet (-1) s = true) :
    Calls Tryz.prog 56 #[.agg #[.string nm, .slice A n c], .slice Ai ni ci] w (MakesI w (downS l s)) := by
  unfold MakesI
  obtain ⟨i0, hi0, hz0, hz1, hz2⟩ := info_parts info_int
  have Hlen := hide h.len
  obtain ⟨L, hL⟩ : ∃ L, L = downS l s := ⟨_, rfl⟩
  rw [← hL]
  have HL := hide hL
  clear hL
  go_enter Tryz.func56, Tryz.ntmps56
  go_wp2
  go_loopw [5, 6] (fun u v wr => ∃ (z : Int) (k m : Nat) (out : List Int), v = .int .i64 z ∧ z = (k : Int) - 1 ∧ k ≤ n ∧ wr.ownsRow w.heap.size 3 1 u m (ics out) ∧ m + k ≤ n ∧ Hid (out ++ downS (l.take k) s = L) ∧ Blk wr w.heap.size 77 #[.string nm, .slice A n c] ∧ Below w.heap.size w wr) (fun _ v _ => (RowKit.intOf v + 1).toNat)
  case atStart => exact ⟨(n : Int) - 1, n, 0, [], by go_num, rfl, Nat.le_refl _, World.ownsRow_nil _ _ _ _, by omega, hide (by rw [List.take_of_length_le (by rw [Hlen.out]; exact Nat.le_refl _), HL.out]; rfl), Blk.new _ _ _, (Below.refl _ _).alloc (Nat.le_refl _) _⟩
  case round =>
    obtain ⟨z, k, m, out, rfl, hz, hk, hown, hmk, hout, hm, hb⟩ := hrel
    have hbs := hb.size
    have m1 := hm.cell 1
    obtain ⟨Ax, cx, rfl, hcx, hrd⟩ := own_ints hown
    cases k with
    | zero =>
      have hzz : ¬ (0 : Int) ≤ z := by omega
      have hL2 : out = L := by have := hout.out; simpa [downS] using this
      subst hL2
      clear hz hout h HL
      go_wp2
      go_ret
      exact ⟨Ax, m, ⟨cx, rfl⟩, hrd, hb⟩
    | succ j =>
      have hj : j < n := by omega
      obtain ⟨ad, q, A', n', c', rfl, hbl, hx, hq, c1, c2⟩ := RlIn.at_ (RlIn.below h hb) hj
      have hstep : downS (l.take (j + 1)) s = (if has s q.1 = true then [q.1] else []) ++ downS (l.take j) s := by rw [take_snoc' l j q hx, downS_snoc]
      have hout2 := hout.out
      rw [hstep, ← List.append_assoc] at hout2
      obtain ⟨y, ns⟩ := q
      simp only [] at c1 c2 hout2
      have HH := hide (refHas_on (c := ci) (w := wr) y (hs.on (hb.mono (Nat.le_refl _))) (SpOn.le hs hset) hset)
      obtain rfl : z = (j : Int) := by omega
      have hj0 : (0 : Int) ≤ (j : Int) := by omega
      have hw2 : IntKind.i64.wrap ((j : Int) - 1) = (j : Int) - 1 := by rw [IntKind.wrap_i64]; omega
      unfold Tells at HH
      clear hz hx hq hstep hout h HL hrd
      cases g : has s y with
      | false =>
        rw [g] at HH hout2
        simp only [Bool.false_eq_true, if_false, List.append_nil] at hout2
        have Ho := hide hout2
        clear hout2 g
        go_wp2_with (go_at_call 81
                     refine HH.out.mono ?_
                     rintro e w1 ⟨rfl, hb1⟩
                     have hbw := hb.trans (hb1.mono hbs)
                     have hm1 := hm.below hb1 hm.lt
                     have ho1 := own_below hown hb1)
        go_roundw
        case rel => exact ⟨(j : Int) - 1, j, m, out, by go_num, rfl, by omega, ho1, by omega, Ho, hm1, hbw⟩
        case measure => simp [RowKit.intOf]
      | true =>
        rw [g] at HH hout2
        simp only [if_true] at hout2
        have Ho := hide hout2
        clear hout2 g
        go_wp2_with (first
          | (go_at_call 81
             refine HH.out.mono ?_
             rintro e w1 ⟨rfl, hb1⟩
             have hbw := hb.trans (hb1.mono hbs)
             have hbs1 := hbw.size
             have hm1 := hm.below hb1 hm.lt
             have k1 := hm1.cell 1
             have d1 := (hb1.cell (p := ad.add (j * 2)) (by rw [block_of_add]; omega)).trans c1
             have ho1 := own_below hown hb1
             have hoA := own_below ho1 (alloc_b (.cells #[.int .i64 y] 3)))
          | (at_builtin
             refine wpList_append_any _ rfl (.tmp 23) (.tmp 30) _ rfl w.heap.size 3 i0 _ 1 8 Tryz.underlying97 hi0 hz0 hz1 hz2 rfl (by omega) _ m (ics out) rfl hoA _ _ 1 _ _ rfl (Reads.new1 w1 3 (.int .i64 y)) (one_cell _ _) (by unfold maxLen; omega) (by omega) (by simp; omega) ?_
             intro v2 w3 hown3 hg3 _
             have hb3 : Below w.heap.size w w3 := (hbw.alloc hbs1 _).grown hg3 (by simp; omega) (fun k hk => (hoA.lt k hk).1)
             have hm3 : Blk w3 w.heap.size 77 #[.string nm, .slice (some ad) n c] := (hm1.alloc _).grown hg3 (farT_own hoA (T := 77) (by decide) _ _ _ (hm1.alloc _))))
        go_roundw
        case rel => exact ⟨(j : Int) - 1, j, m + 1, out ++ [y], by go_num, rfl, by omega, by rw [ics_append]; exact hown3, by omega, Ho, hm3, hb3⟩
        case measure => simp [RowKit.intOf]
end Go.Proofs.YtmoeilkaadnnoaaGreat.Mani
/-
  The contract of the document's Down once more, its numbers told with the type of their row. Condition: a set; releases of a number that may be walked.
-/
namespace Go.Proofs.YtmoeilkaadnnoaaGreat.Mani
open Go Go.RowKit Go.Lib Go.Proofs.YtmoeilkaadnnoaaGreat.Span Go.Proofs.YtmoeilkaadnnoaaGreat.Need
set_option linter.unusedVariables false
/-- What a call makes: a row of numbers. -/
def MakesO (w : World) (L : List Int) (e : Ending) (w' : World) : Prop := ∃ A n c, e = .returned (.slice A n c) ∧ w'.ownsRow 0 3 1 (.slice A n c) n (ics L) ∧ Below w.heap.size w w'
set_option maxHeartbeats 4000000 in
set_option maxRecDepth 100000 in
theorem refDownO_any (nm : ByteArray) (l : List Rl) (A : Option Addr) (n c : Nat) (Ai : Option Addr) (ni ci : Nat) (s : List S) (w : World) (h : RlOn w A n l) (hl : n ≤ 30) (hs : SpOn w Ai ni s) (hset : isSet (-1) s = true) :
    Calls Tryz.prog 56 #[.agg #[.string nm, .slice A n c], .slice Ai ni ci] w (MakesO w (downS l s)) := by
  unfold MakesO
  obtain ⟨i0, hi0, hz0, hz1, hz2⟩ := info_parts info_int
  have Hlen := hide h.len
  obtain ⟨L, hL⟩ : ∃ L, L = downS l s := ⟨_, rfl⟩
  rw [← hL]
  have HL := hide hL
  clear hL
  go_enter Tryz.func56, Tryz.ntmps56
  go_wp2
  go_loopw [5, 6] (fun u v wr => ∃ (z : Int) (k m : Nat) (out : List Int), v = .int .i64 z ∧ z = (k : Int) - 1 ∧ k ≤ n ∧ wr.ownsRow w.heap.size 3 1 u m (ics out) ∧ m + k ≤ n ∧ Hid (out ++ downS (l.take k) s = L) ∧ Blk wr w.heap.size 77 #[.string nm, .slice A n c] ∧ Below w.heap.size w wr) (fun _ v _ => (RowKit.intOf v + 1).toNat)
  case atStart => exact ⟨(n : Int) - 1, n, 0, [], by go_num, rfl, Nat.le_refl _, World.ownsRow_nil _ _ _ _, by omega, hide (by rw [List.take_of_length_le (by rw [Hlen.out]; exact Nat.le_refl _), HL.out]; rfl), Blk.new _ _ _, (Below.refl _ _).alloc (Nat.le_refl _) _⟩
  case round =>
    obtain ⟨z, k, m, out, rfl, hz, hk, hown, hmk, hout, hm, hb⟩ := hrel
    have hbs := hb.size
    have m1 := hm.cell 1
    obtain ⟨Ax, cx, rfl, hcx, hrd⟩ := own_ints hown
    cases k with
    | zero =>
      have hzz : ¬ (0 : Int) ≤ z := by omega
      have hL2 : out = L := by have := hout.out; simpa [downS] using this
      subst hL2
      clear hz hout h HL
      go_wp2
      go_ret
      exact ⟨Ax, m, cx, rfl, own_less hown (Nat.zero_le _), hb⟩
    | succ j =>
      have hj : j < n := by omega
      obtain ⟨ad, q, A', n', c', rfl, hbl, hx, hq, c1, c2⟩ := RlIn.at_ (RlIn.below h hb) hj
      have hstep : downS (l.take (j + 1)) s = (if has s q.1 = true then [q.1] else []) ++ downS (l.take j) s := by rw [take_snoc' l j q hx, downS_snoc]
      have hout2 := hout.out
      rw [hstep, ← List.append_assoc] at hout2
      obtain ⟨y, ns⟩ := q
      simp only [] at c1 c2 hout2
      have HH := hide (refHas_on (c := ci) (w := wr) y (hs.on (hb.mono (Nat.le_refl _))) (SpOn.le hs hset) hset)
      obtain rfl : z = (j : Int) := by omega
      have hj0 : (0 : Int) ≤ (j : Int) := by omega
      have hw2 : IntKind.i64.wrap ((j : Int) - 1) = (j : Int) - 1 := by rw [IntKind.wrap_i64]; omega
      unfold Tells at HH
      clear hz hx hq hstep hout h HL hrd
      cases g : has s y with
      | false =>
        rw [g] at HH hout2
        simp only [Bool.false_eq_true, if_false, List.append_nil] at hout2
        have Ho := hide hout2
        clear hout2 g
        go_wp2_with (go_at_call 81
                     refine HH.out.mono ?_
                     rintro e w1 ⟨rfl, hb1⟩
                     have hbw := hb.trans (hb1.mono hbs)
                     have hm1 := hm.below hb1 hm.lt
                     have ho1 := own_below hown hb1)
        go_roundw
        case rel => exact ⟨(j : Int) - 1, j, m, out, by go_num, rfl, by omega, ho1, by omega, Ho, hm1, hbw⟩
        case measure => simp [RowKit.intOf]
      | true =>
        rw [g] at HH hout2
        simp only [if_true] at hout2
        have Ho := hide hout2
        clear hout2 g
        go_wp2_with (first
          | (go_at_call 81
             refine HH.out.mono ?_
             rintro e w1 ⟨rfl, hb1⟩
             have hbw := hb.trans (hb1.mono hbs)
             have hbs1 := hbw.size
             have hm1 := hm.below hb1 hm.lt
             have k1 := hm1.cell 1
             have d1 := (hb1.cell (p := ad.add (j * 2)) (by rw [block_of_add]; omega)).trans c1
             have ho1 := own_below hown hb1
             have hoA := own_below ho1 (alloc_b (.cells #[.int .i64 y] 3)))
          | (at_builtin
             refine wpList_append_any _ rfl (.tmp 23) (.tmp 30) _ rfl w.heap.size 3 i0 _ 1 8 Tryz.underlying97 hi0 hz0 hz1 hz2 rfl (by omega) _ m (ics out) rfl hoA _ _ 1 _ _ rfl (Reads.new1 w1 3 (.int .i64 y)) (one_cell _ _) (by unfold maxLen; omega) (by omega) (by simp; omega) ?_
             intro v2 w3 hown3 hg3 _
             have hb3 : Below w.heap.size w w3 := (hbw.alloc hbs1 _).grown hg3 (by simp; omega) (fun k hk => (hoA.lt k hk).1)
             have hm3 : Blk w3 w.heap.size 77 #[.string nm, .slice (some ad) n c] := (hm1.alloc _).grown hg3 (farT_own hoA (T := 77) (by decide) _ _ _ (hm1.alloc _))))
        go_roundw
        case rel => exact ⟨(j : Int) - 1, j, m + 1, out ++ [y], by go_num, rfl, by omega, by rw [ics_append]; exact hown3, by omega, Ho, hm3, hb3⟩
        case measure => simp [RowKit.intOf]
end Go.Proofs.YtmoeilkaadnnoaaGreat.Mani
/-
  The contract of the program's Down once more, its numbers told with the type of their row. Condition: releases of a number that may be walked.
-/
namespace Go.Proofs.YtmoeilkaadnnoaaGreat.Mani
open Go Go.RowKit Go.Lib Go.Proofs.YtmoeilkaadnnoaaGreat.Span Go.Proofs.YtmoeilkaadnnoaaGreat.Need
set_option linter.unusedVariables false
attribute [local go_sem] Oper.semAt_some
set_option maxRecDepth 100000 in
set_option maxHeartbeats 4000000 in
theorem downO_any (nm : ByteArray) (l : List Rl) (A : Option Addr) (n c : Nat) (Ai : Option Addr) (ni ci : Nat) (s : List S) (w : World) (h : RlOn w A n l) (hl : n ≤ 30) (hs : SpOn w Ai ni s) (hni : ni ≤ 1000000001) :
    Calls Tryz.prog 77 #[.agg #[.string nm, .slice A n c], .slice Ai ni ci] w (MakesO w (downS l s)) := by
  unfold MakesO
  obtain ⟨i0, hi0, hz0, hz1, hz2⟩ := info_parts info_int
  have hbk := hide (fun wx => back_any A n c wx)
  obtain ⟨H, hH⟩ : ∃ H, H = w.heap.size := ⟨_, rfl⟩
  refine (callsIn_wide (n := 9)).1 ?_
  refine callsIn_of_wp_marks Tryz.func77 rfl trivial ?_ rfl
  simp only [Tryz.ntmps77, List.size_toArray, List.length_cons, List.length_nil, Nat.reduceAdd, Nat.reduceSub, Array.replicate_succ, Array.replicate_zero, List.push_toArray, List.append_toArray, List.nil_append, List.cons_append]
  gi_wp2_with (refine ⟨trivial, ?_⟩; gi_at_call 101; refine (callsIn_wide.2 (hbk.out _)).mono ?_; rintro e w2 ⟨rfl, rfl⟩)
  obtain ⟨W0, hW0⟩ : ∃ W0, W0 = ((((w.alloc (.cells #[.string nm, .slice A n c] 77)).alloc (.cells #[.slice Ai ni ci] 46)).alloc (.cells #[.slice none 0 0] 97)).alloc (.cells #[.slice A n c] 75)) := ⟨_, rfl⟩
  have hsz0 : W0.heap.size = w.heap.size + 4 := by rw [hW0]; simp
  have hB0 : Below w.heap.size w W0 := by
    rw [hW0]
    exact ((((Below.refl _ _).alloc (Nat.le_refl _) _).alloc (by simp) _).alloc (by simp; omega) _).alloc (by simp; omega) _
  have b1 : Boxed W0 (w.heap.size + 1) 46 (.slice Ai ni ci) := by
    rw [hW0]
    have := ((Boxed.new (w.alloc (.cells #[.string nm, .slice A n c] 77)) 46 (.slice Ai ni ci)).alloc (.cells #[.slice none 0 0] 97)).alloc (.cells #[.slice A n c] 75)
    rwa [World.size_alloc] at this
  have b2 : Boxed W0 (w.heap.size + 2) 97 (.slice none 0 0) := by
    rw [hW0]
    have := (Boxed.new ((w.alloc (.cells #[.string nm, .slice A n c] 77)).alloc (.cells #[.slice Ai ni ci] 46)) 97 (.slice none 0 0)).alloc (.cells #[.slice A n c] 75)
    rwa [World.size_alloc, World.size_alloc] at this
  have b3 : Boxed W0 (w.heap.size + 3) 75 (.slice A n c) := by
    rw [hW0]
    have := Boxed.new (((w.alloc (.cells #[.string nm, .slice A n c] 77)).alloc (.cells #[.slice Ai ni ci] 46)).alloc (.cells #[.slice none 0 0] 97)) 75 (.slice A n c)
    rwa [World.size_alloc, World.size_alloc, World.size_alloc] at this
  try rw [← hW0]
  clear hW0 hbk
  refine wpIn_rangeFunc_ownH rfl (by omega) (gf := 127) (lb := #[.pointer (some ⟨w.heap.size + 3, 0, none⟩)]) rfl trivial (enters_of Tryz.func127 (by kernel_rfl) rfl)
    (back_stops l A n c w.heap.size (w.heap.size + 3) _ (by omega) (by omega) W0 (RlIn.below h hB0) hB0.size b3) kpI_t (kpI_b hB0.size (by omega)) (Below.refl _ _) (fun _ => rfl)
    (fun pre W => (∃ v, Boxed W (w.heap.size + 2) 97 v ∧ Boxed W (w.heap.size + 1) 46 (.slice Ai ni ci) ∧ W.ownsRow W0.heap.size 3 1 v (hitsI s pre).length (ics (hitsI s pre))) ∧ Below w.heap.size w W)
    (fun c pre W => False)
    (fun pre X Y row ⟨⟨v, g1, g2, g3⟩, hB⟩ hg hr => ⟨⟨v, g1.kept hg (fun e => by have := (hr _ e.symm).1; omega), g2.kept hg (fun e => by have := (hr _ e.symm).1; omega), g3.kept hg (by
        rcases g3.2 with ⟨rfl, _⟩ | ⟨g, cap, cur, rfl, _, hgb, _⟩
        · exact .inl rfl
        · refine .inr fun e' => ?_
          obtain ⟨_, o, ho, hc⟩ := hr g (by simpa [Value.ownBlock] using e'.symm)
          rw [hgb] at ho; cases ho; cases hc)⟩, hB.grown hg hB.size (fun r e => by have := (hr r e).1; omega)⟩)
    (fun c pre X Y row hF _ _ => hF)
    ⟨⟨_, b2, b1, World.ownsRow_nil _ _ _ _⟩, hB0⟩
    (fun x a' W => ∃ Bx, Blk W Bx 116 #[.int .i64 x.2.1, .slice x.2.2.1 x.2.2.2.1 x.2.2.2.2] ∧ a' = { tmps := #[.agg #[.string nm, .slice A n c], .slice Ai ni ci, .pointer (some ⟨w.heap.size, 0, none⟩), .pointer (some ⟨w.heap.size + 1, 0, none⟩), .slice none 0 0, .pointer (some ⟨w.heap.size + 2, 0, none⟩), undef, .pointer (some ⟨Bx, 0, none⟩), .pointer (some ⟨w.heap.size, 1, none⟩), .slice A n c, .func (.func 127) #[] #[.pointer (some ⟨w.heap.size + 3, 0, none⟩)], .int .i64 (x.1 : Int), .agg #[.int .i64 x.2.1, .slice x.2.2.1 x.2.2.2.1 x.2.2.2.2], undef, undef, undef, undef, undef, undef, undef, undef, undef, undef], defers := [] })
    (fun x a' _ X Y row ⟨Bx, g2, g3⟩ hg hr => ⟨Bx, g2.grown hg (fun e => by
        obtain ⟨_, o, ho, hc⟩ := hr _ e.symm
        rw [show X.heap[Bx]? = _ from g2] at ho; cases ho; cases hc), g3⟩)
    ?assign ?body ?done ?stop
  case assign =>
    rintro lx pre x W K ⟨⟨v, g1, g2, g3⟩, hB⟩ hK
    unfold encI
    gi_wp2
    exact hK _ _ ((KeepsOthers.alloc _ _).from _) ⟨(Below.refl _ W).alloc hB.size _, fun u hu => hu.alloc _⟩ ⟨⟨v, g1.alloc _, g2.alloc _, own_below g3 (alloc_b _)⟩, hB.alloc hB.size _⟩ ⟨W.heap.size, Blk.new _ _ _, rfl⟩
  case body =>
    rintro lx pre x a' W hlx ⟨r, hr⟩ ⟨⟨v, g1, g2, hown⟩, hB⟩ ⟨Bx, hk, rfl⟩ hlt
    have HS := hide (has_on (c := ci) x.2.1 (SpOn.on hs hB) hni)
    have hsn := hits_snoc s pre x
    have hpl := hits_len s pre
    have hver : verI x = x.2.1 := rfl
    rw [hver] at hsn
    have c1 := g1.cell
    have c2 := g2.cell
    have k0 := hk.cell 0
    have hWs := hB.size
    have hlt1 := g1.lt
    have hlt2 := g2.lt
    have hltk := hk.lt
    unfold Tells at HS
    cases hh : has s x.2.1 with
    | false =>
      rw [hh] at HS hsn
      simp only [Bool.false_eq_true, if_false, List.append_nil] at hsn
      have Hsn := hide hsn
      clear hsn
      gi_wp2_with (refine ⟨trivial, ?_⟩
                   gi_at_call 75
                   refine (CallsIn.inRound lx (callsIn_wide.2 HS.out)).mono ?_
                   rintro e w5 ⟨rfl, hb5⟩)
      exact ⟨keeps_below hb5, ⟨hb5.mono hWs, fun u hu => (hb5.block _ hu.lt).trans hu⟩, ⟨v, (hb5.block _ g1.lt).trans g1, (hb5.block _ g2.lt).trans g2, by rw [Hsn.out]; exact own_below hown hb5⟩, hB.trans (hb5.mono hWs)⟩
    | true =>
      rw [hh] at HS hsn
      simp only [if_true] at hsn
      have Hsn := hide hsn
      clear hsn
      have hol := hown.lt
      gi_wp2_with (first
        | (refine ⟨trivial, ?_⟩
           gi_at_call 75
           refine (CallsIn.inRound lx (callsIn_wide.2 HS.out)).mono ?_
           rintro e w5 ⟨rfl, hb5⟩
           have h5s := hb5.size
           have d1 : Boxed w5 (w.heap.size + 2) 97 v := (hb5.block _ hlt1).trans g1
           have e1 := d1.cell
           have dk : Blk w5 Bx 116 _ := hk.below hb5 hltk
           have e2 := dk.cell 0
           have e3 : ∀ o, (w5.alloc o).cell? ⟨w.heap.size + 2, 0, none⟩ = some v := fun o => (d1.alloc o).cell
           have hbA : Below W.heap.size W (w5.alloc (.cells #[.int .i64 x.2.1] 3)) := hb5.alloc h5s _)
        | (gi_at_builtin
           refine wpListIn_append_own _ rfl (.tmp 17) (.tmp 20) 97 rfl W0.heap.size 3 i0 _ 1 8 Tryz.underlying97 hi0 hz0 hz1 hz2 rfl (by decide) _ (hitsI s pre).length (ics (hitsI s pre)) rfl (own_below hown hbA) ⟨w5.heap.size, 0, none⟩ 1 1 [.int .i64 x.2.1] rfl rfl (cell_one_new _ _ _) (by simp [Value.oneCell']) (by unfold maxLen; omega) (by omega) (by simp; omega) ?_
           intro v' w6 hown6 hg6 _
           obtain ⟨g', cap', rfl⟩ := ownsRow_succ hown6
           have d2 := (d1.alloc (.cells #[.int .i64 x.2.1] 3)).kept hg6 (fun e => by have := (hol _ e.symm).1; omega)
           have e4 := d2.cell
           have f4 := d2.frozen))
      have K12 := keeps_below (B := W0.heap.size) hbA
      have K3 := keeps_row (B := W0.heap.size) (own_below hown hbA) hg6
      have up : ∀ {b t u} (z : Value), Boxed W b t u → b < W0.heap.size → b ≠ w.heap.size + 2 → Boxed (w6.setCell ⟨w.heap.size + 2, 0, none⟩ z) b t u := fun {b t u} z hbx hbk hne => by
        have h1 : Boxed _ b t u := (hbA.block b hbx.lt).trans hbx
        exact (h1.kept hg6 (fun e => by have := (hol _ e.symm).1; omega)).other hne z
      have hBW0 : Below w.heap.size W w6 := (hbA.mono hWs).grown hg6 (by simp; omega) (fun r e => by have := (hol r e).1; omega)
      have hBW := fun z => hBW0.setCell (p := ⟨w.heap.size + 2, 0, none⟩) (show w.heap.size ≤ w.heap.size + 2 by omega) z
      refine ⟨(K12.trans K3).trans ((KeepsOthers.setCell _ _ _).from _), ⟨hBW _, fun u hu => up _ hu (by omega) (by omega)⟩, ⟨_, d2.set _, up _ g2 (by omega) (by omega), ?_⟩, hB.trans (hBW _)⟩
      rw [Hsn.out, ics_append, List.length_append]
      refine hown6.kept (grownBy_setCell' _ _ _) (.inr fun e => ?_)
      have := (hown6.lt _ e).1
      omega
  case done =>
    rintro D ys W hD hS ⟨⟨v, g1, g2, hown⟩, hB⟩ hK
    rw [hits_all hS s] at hown
    have c1 := g1.cell
    have hoK := ownsRow_putObj hown (.deferred none) hK rfl
    have hoK9 := own_less hoK (Nat.zero_le _)
    obtain ⟨Av, cv, eA, _, _, hrd⟩ := own_form hoK9
    subst eA
    have hBd := hB.trans (belowK_b (w := W0) hB0.size W D (.deferred (some [])) (.deferred none) hD hK rfl rfl)
    have hlen : (downS l s).length = (downS l s).length := rfl
    gi_wp2
    refine ⟨by simp, .inl ⟨_, _, rfl, run_takeDeferred hK, ?_⟩⟩
    exact ⟨_, results_tmp rfl _ _ _, Av, _, cv, rfl, hoK9, hBd⟩
  case stop =>
    rintro D c pre W hD hpre hF hK
    exact hF.elim
end Go.Proofs.YtmoeilkaadnnoaaGreat.Mani
