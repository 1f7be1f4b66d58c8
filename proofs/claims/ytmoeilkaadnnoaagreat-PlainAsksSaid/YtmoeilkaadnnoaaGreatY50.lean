/-
  Some texts of this claim, one behind the other: ManiDown, PlainRefDown, PlainRefOn, PlainDown, PlainAsked. What each proves, and its condition, stands at its head.
-/
import Derived.Test.YtmoeilkaadnnoaaGreatY24
import Derived.Test.YtmoeilkaadnnoaaGreatY13
import Derived.Test.YtmoeilkaadnnoaaGreatY17
import Derived.Test.YtmoeilkaadnnoaaGreatY39
import Derived.Test.YtmoeilkaadnnoaaGreatY38
import Derived.Test.YtmoeilkaadnnoaaGreatY37
import Derived.Test.YtmoeilkaadnnoaaGreatY43
import Derived.Test.YtmoeilkaadnnoaaGreatY18
import Derived.Test.YtmoeilkaadnnoaaGreatY34
import Derived.Test.YtmoeilkaadnnoaaGreatY48
import Derived.Test.YtmoeilkaadnnoaaGreatY14
import Derived.Test.YtmoeilkaadnnoaaGreatY23
/-
  Contracts of Down and Newest: the versions in a set, the newest first; the newest one. Condition: releases of a number that may be walked.
-/
namespace Go.Proofs.YtmoeilkaadnnoaaGreat.Mani
open Go Go.RowKit Go.Lib Go.Proofs.YtmoeilkaadnnoaaGreat.Span Go.Proofs.YtmoeilkaadnnoaaGreat.Need
set_option linter.unusedVariables false
attribute [local go_sem] Oper.semAt_some
def hitsI (s : List S) (pre : List It) : List Int := (pre.map verI).filter (has s)
theorem hits_snoc (s : List S) (pre : List It) (x : It) : hitsI s (pre ++ [x]) = hitsI s pre ++ if has s (verI x) = true then [verI x] else [] := by
  unfold hitsI
  rw [List.map_append, List.filter_append]
  congr 1
  simp only [List.map_cons, List.map_nil, List.filter_cons, List.filter_nil]
theorem hits_len (s : List S) (pre : List It) : (hitsI s pre).length ≤ pre.length := by
  have := List.length_filter_le (has s) (pre.map verI)
  rw [List.length_map] at this
  exact this
theorem down_filter (l : List Rl) (s : List S) : (l.map Prod.fst).reverse.filter (has s) = downS l s := by
  induction l with
  | nil => rfl
  | cons x t ih =>
    rw [List.map_cons, List.reverse_cons, List.filter_append, ih, downS]
    congr 1
    simp only [List.filter_cons, List.filter_nil]
theorem hits_all {l : List Rl} {ys : List It} (h : AllI l ys) (s : List S) : hitsI s ys = downS l s := by
  unfold hitsI
  rw [show ys.map verI = _ from h, down_filter]
def IntOn (w : World) (A : Option Addr) (n : Nat) (L : List Int) : Prop := Reads w w.heap.size 1 A n (ics L)
theorem IntOn.on {w w' : World} {A : Option Addr} {n : Nat} {L : List Int} (h : IntOn w A n L) (hb : Below w.heap.size w w') : IntOn w' A n L := (Reads.below h hb).more hb.size
theorem IntOn.len {w : World} {A : Option Addr} {n : Nat} {L : List Int} (h : IntOn w A n L) : L.length = n := by
  have := h.1
  rw [ics_length] at this
  omega
def MakesI (w : World) (L : List Int) (e : Ending) (w' : World) : Prop := ∃ A n c, e = .returned (.slice A n c) ∧ IntOn w' A n L ∧ Below w.heap.size w w'
theorem ics_append (l m : List Int) : ics (l ++ m) = ics l ++ ics m := by simp [ics]
theorem keeps_below {B : Nat} {W W' : World} (h : Below W.heap.size W W') : KeepsFrom B W W' := ⟨h.size, fun k o _ hk _ => (h.block k (Array.getElem?_eq_some_iff.1 hk).1).trans hk⟩
theorem keeps_row {B base size n : Nat} {e : TypeId} {v : Value} {xs : List Value} {W W' : World} (h : W.ownsRow base e size v n xs) (hg : W.grownBy W' v.ownBlock) : KeepsFrom B W W' :=
  ⟨hg.size, fun k o _ hk hc => (hg.block k (Array.getElem?_eq_some_iff.1 hk).1 (fun e' => by
    rcases h.2 with ⟨rfl, _⟩ | ⟨g, cap, cur, rfl, _, hgb, _⟩
    · cases e'
    · simp only [Value.ownBlock, Option.some.injEq] at e'
      subst e'
      rw [hgb] at hk; cases hk; cases hc)).trans hk⟩
end Go.Proofs.YtmoeilkaadnnoaaGreat.Mani
/-
  The contract of the document's Down once more, its numbers told with the type of their row. Condition: a set; releases of a number that may be walked.
-/
namespace Go.Proofs.YtmoeilkaadnnoaaGreat.Mani
open Go Go.RowKit Go.Lib Go.Proofs.YtmoeilkaadnnoaaGreat.Span Go.Proofs.YtmoeilkaadnnoaaGreat.Need
set_option linter.unusedVariables false
def MakesO (w : World) (L : List Int) (e : Ending) (w' : World) : Prop := ∃ A n c, e = .returned (.slice A n c) ∧ w'.ownsRow 0 3 1 (.slice A n c) n (ics L) ∧ Below w.heap.size w w'
end Go.Proofs.YtmoeilkaadnnoaaGreat.Mani
/-
  The contract of the document's search (on): what it comes to from picks, with the fuel that is left; by induction on the depth. Condition: what is known is looked at; the fuel is at most 2000.
-/
namespace Go.Proofs.YtmoeilkaadnnoaaGreat.Plain
open Go Go.RowKit Go.Lib Go.Sort Go.Proofs.YtmoeilkaadnnoaaGreat.Span Go.Proofs.YtmoeilkaadnnoaaGreat.Need Go.Proofs.YtmoeilkaadnnoaaGreat.Mani Go.Proofs.YtmoeilkaadnnoaaGreat.Wire Go.Proofs.YtmoeilkaadnnoaaGreat.Depot Go.Proofs.YtmoeilkaadnnoaaGreat.Index Go.Proofs.YtmoeilkaadnnoaaGreat.Pick Go.Proofs.YtmoeilkaadnnoaaGreat.Fit
set_option linter.unusedVariables false
section
variable (X : List Kn) (root : List Nd) (Ay : Option Addr) (ny cy : Nat) (Ar : Option Addr) (nr cr : Nat) (b : Nat) (w0 : World)
def OnPost (Ay : Option Addr) (ny cy : Nat) (Ar : Option Addr) (nr cr : Nat) (b : Nat) (w : World) (z : Int) (t : Plain.Told) (f' : Nat) (e : Ending) (w' : World) : Prop :=
  ∃ A n c z', e = .returned (.tuple #[.slice A n c, .int .i64 (kindT t), .string (nameT t)]) ∧ NewP w' 0 A n c (picksT t) ∧ Int.toNat z' = f' ∧ z' ≤ z ∧ Blk w' b 82 #[.slice Ay ny cy, .slice Ar nr cr, .int .i64 z'] ∧ w.grownBy w' (some b)
def OnC (X : List Kn) (root : List Nd) (Ay : Option Addr) (ny cy : Nat) (Ar : Option Addr) (nr cr : Nat) (b : Nat) (w0 : World) (g : Nat) : Prop := ∀ (z : Int) (l : List Pk) (Al : Option Addr) (nl cl : Nat) (w : World), Below w0.heap.size w0 w → Blk w b 82 #[.slice Ay ny cy, .slice Ar nr cr, .int .i64 z] → NewP w 0 Al nl cl l → Way X root l → z.toNat < g → z ≤ 2000 →
  Calls Tryz.prog 30 #[.pointer (some ⟨b, 0, none⟩), .slice Al nl cl] w (OnPost Ay ny cy Ar nr cr b w z (onX X root g z.toNat l).1 (onX X root g z.toNat l).2)
end
end Go.Proofs.YtmoeilkaadnnoaaGreat.Plain
/-
  The contract of the program's Down once more, its numbers told with the type of their row. Condition: releases of a number that may be walked.
-/
namespace Go.Proofs.YtmoeilkaadnnoaaGreat.Mani
open Go Go.RowKit Go.Lib Go.Proofs.YtmoeilkaadnnoaaGreat.Span Go.Proofs.YtmoeilkaadnnoaaGreat.Need
set_option linter.unusedVariables false
attribute [local go_sem] Oper.semAt_some
set_option maxRecDepth 100000 in
set_option maxHeartbeats 4000000 in
theorem downO_any (nm : ByteArray) (l : List Rl) (A : Option Addr) (n c : Nat) (Ai : Option Addr) (ni ci : Nat) (s : List S) (w : World) (h : RlOn w A n l) (hl : n ≤ 30) (hs : SpOn w Ai ni s) (hni : ni ≤ 1000000001) :
    Calls Tryz.prog 77 #[.agg #[.string nm, .slice A n c], .slice Ai ni ci] w (MakesO w (downS l s)) := by
  unfold MakesO
  obtain ⟨i0, hi0, hz0, hz1, hz2⟩ := info_parts info_int
  have hbk := hide (fun wx => back_any A n c wx)
  obtain ⟨H, hH⟩ : ∃ H, H = w.heap.size := ⟨_, rfl⟩
  refine (callsIn_wide (n := 9)).1 ?_
  refine callsIn_of_wp_marks Tryz.func77 rfl trivial ?_ rfl
  simp only [Tryz.ntmps77, List.size_toArray, List.length_cons, List.length_nil, Nat.reduceAdd, Nat.reduceSub, Array.replicate_succ, Array.replicate_zero, List.push_toArray, List.append_toArray, List.nil_append, List.cons_append]
  gi_wp2_with (refine ⟨trivial, ?_⟩; gi_at_call 101; refine (callsIn_wide.2 (hbk.out _)).mono ?_; rintro e w2 ⟨rfl, rfl⟩)
  obtain ⟨W0, hW0⟩ : ∃ W0, W0 = ((((w.alloc (.cells #[.string nm, .slice A n c] 77)).alloc (.cells #[.slice Ai ni ci] 46)).alloc (.cells #[.slice none 0 0] 97)).alloc (.cells #[.slice A n c] 75)) := ⟨_, rfl⟩
  have hsz0 : W0.heap.size = w.heap.size + 4 := by rw [hW0]; simp
  have hB0 : Below w.heap.size w W0 := by
    rw [hW0]
    exact ((((Below.refl _ _).alloc (Nat.le_refl _) _).alloc (by simp) _).alloc (by simp; omega) _).alloc (by simp; omega) _
  have b1 : Boxed W0 (w.heap.size + 1) 46 (.slice Ai ni ci) := by
    rw [hW0]
    have := ((Boxed.new (w.alloc (.cells #[.string nm, .slice A n c] 77)) 46 (.slice Ai ni ci)).alloc (.cells #[.slice none 0 0] 97)).alloc (.cells #[.slice A n c] 75)
    rwa [World.size_alloc] at this
  have b2 : Boxed W0 (w.heap.size + 2) 97 (.slice none 0 0) := by
    rw [hW0]
    have := (Boxed.new ((w.alloc (.cells #[.string nm, .slice A n c] 77)).alloc (.cells #[.slice Ai ni ci] 46)) 97 (.slice none 0 0)).alloc (.cells #[.slice A n c] 75)
    rwa [World.size_alloc, World.size_alloc] at this
  have b3 : Boxed W0 (w.heap.size + 3) 75 (.slice A n c) := by
    rw [hW0]
    have := Boxed.new (((w.alloc (.cells #[.string nm, .slice A n c] 77)).alloc (.cells #[.slice Ai ni ci] 46)).alloc (.cells #[.slice none 0 0] 97)) 75 (.slice A n c)
    rwa [World.size_alloc, World.size_alloc, World.size_alloc] at this
  try rw [← hW0]
  clear hW0 hbk
  refine wpIn_rangeFunc_ownH rfl (by omega) (gf := 127) (lb := #[.pointer (some ⟨w.heap.size + 3, 0, none⟩)]) rfl trivial (enters_of Tryz.func127 (by kernel_rfl) rfl)
    (back_stops l A n c w.heap.size (w.heap.size + 3) _ (by omega) (by omega) W0 (RlIn.below h hB0) hB0.size b3) kpI_t (kpI_b hB0.size (by omega)) (Below.refl _ _) (fun _ => rfl)
    (fun pre W => (∃ v, Boxed W (w.heap.size + 2) 97 v ∧ Boxed W (w.heap.size + 1) 46 (.slice Ai ni ci) ∧ W.ownsRow W0.heap.size 3 1 v (hitsI s pre).length (ics (hitsI s pre))) ∧ Below w.heap.size w W)
    (fun c pre W => False)
    (fun pre X Y row ⟨⟨v, g1, g2, g3⟩, hB⟩ hg hr => ⟨⟨v, g1.kept hg (fun e => by have := (hr _ e.symm).1; omega), g2.kept hg (fun e => by have := (hr _ e.symm).1; omega), g3.kept hg (by
        rcases g3.2 with ⟨rfl, _⟩ | ⟨g, cap, cur, rfl, _, hgb, _⟩
        · exact .inl rfl
        · refine .inr fun e' => ?_
          obtain ⟨_, o, ho, hc⟩ := hr g (by simpa [Value.ownBlock] using e'.symm)
          rw [hgb] at ho; cases ho; cases hc)⟩, hB.grown hg hB.size (fun r e => by have := (hr r e).1; omega)⟩)
    (fun c pre X Y row hF _ _ => hF)
    ⟨⟨_, b2, b1, World.ownsRow_nil _ _ _ _⟩, hB0⟩
    (fun x a' W => ∃ Bx, Blk W Bx 116 #[.int .i64 x.2.1, .slice x.2.2.1 x.2.2.2.1 x.2.2.2.2] ∧ a' = { tmps := #[.agg #[.string nm, .slice A n c], .slice Ai ni ci, .pointer (some ⟨w.heap.size, 0, none⟩), .pointer (some ⟨w.heap.size + 1, 0, none⟩), .slice none 0 0, .pointer (some ⟨w.heap.size + 2, 0, none⟩), undef, .pointer (some ⟨Bx, 0, none⟩), .pointer (some ⟨w.heap.size, 1, none⟩), .slice A n c, .func (.func 127) #[] #[.pointer (some ⟨w.heap.size + 3, 0, none⟩)], .int .i64 (x.1 : Int), .agg #[.int .i64 x.2.1, .slice x.2.2.1 x.2.2.2.1 x.2.2.2.2], undef, undef, undef, undef, undef, undef, undef, undef, undef, undef], defers := [] })
    (fun x a' _ X Y row ⟨Bx, g2, g3⟩ hg hr => ⟨Bx, g2.grown hg (fun e => by
        obtain ⟨_, o, ho, hc⟩ := hr _ e.symm
        rw [show X.heap[Bx]? = _ from g2] at ho; cases ho; cases hc), g3⟩)
    ?assign ?body ?done ?stop
  case assign =>
    rintro lx pre x W K ⟨⟨v, g1, g2, g3⟩, hB⟩ hK
    unfold encI
    gi_wp2
    exact hK _ _ ((KeepsOthers.alloc _ _).from _) ⟨(Below.refl _ W).alloc hB.size _, fun u hu => hu.alloc _⟩ ⟨⟨v, g1.alloc _, g2.alloc _, own_below g3 (alloc_b _)⟩, hB.alloc hB.size _⟩ ⟨W.heap.size, Blk.new _ _ _, rfl⟩
  case body =>
    rintro lx pre x a' W hlx ⟨r, hr⟩ ⟨⟨v, g1, g2, hown⟩, hB⟩ ⟨Bx, hk, rfl⟩ hlt
    have HS := hide (has_on (c := ci) x.2.1 (SpOn.on hs hB) hni)
    have hsn := hits_snoc s pre x
    have hpl := hits_len s pre
    have hver : verI x = x.2.1 := rfl
    rw [hver] at hsn
    have c1 := g1.cell
    have c2 := g2.cell
    have k0 := hk.cell 0
    have hWs := hB.size
    have hlt1 := g1.lt
    have hlt2 := g2.lt
    have hltk := hk.lt
    unfold Tells at HS
    cases hh : has s x.2.1 with
    | false =>
      rw [hh] at HS hsn
      simp only [Bool.false_eq_true, if_false, List.append_nil] at hsn
      have Hsn := hide hsn
      clear hsn
      gi_wp2_with (refine ⟨trivial, ?_⟩
                   gi_at_call 75
                   refine (CallsIn.inRound lx (callsIn_wide.2 HS.out)).mono ?_
                   rintro e w5 ⟨rfl, hb5⟩)
      exact ⟨keeps_below hb5, ⟨hb5.mono hWs, fun u hu => (hb5.block _ hu.lt).trans hu⟩, ⟨v, (hb5.block _ g1.lt).trans g1, (hb5.block _ g2.lt).trans g2, by rw [Hsn.out]; exact own_below hown hb5⟩, hB.trans (hb5.mono hWs)⟩
    | true =>
      rw [hh] at HS hsn
      simp only [if_true] at hsn
      have Hsn := hide hsn
      clear hsn
      have hol := hown.lt
      gi_wp2_with (first
        | (refine ⟨trivial, ?_⟩
           gi_at_call 75
           refine (CallsIn.inRound lx (callsIn_wide.2 HS.out)).mono ?_
           rintro e w5 ⟨rfl, hb5⟩
           have h5s := hb5.size
           have d1 : Boxed w5 (w.heap.size + 2) 97 v := (hb5.block _ hlt1).trans g1
           have e1 := d1.cell
           have dk : Blk w5 Bx 116 _ := hk.below hb5 hltk
           have e2 := dk.cell 0
           have e3 : ∀ o, (w5.alloc o).cell? ⟨w.heap.size + 2, 0, none⟩ = some v := fun o => (d1.alloc o).cell
           have hbA : Below W.heap.size W (w5.alloc (.cells #[.int .i64 x.2.1] 3)) := hb5.alloc h5s _)
        | (gi_at_builtin
           refine wpListIn_append_own _ rfl (.tmp 17) (.tmp 20) 97 rfl W0.heap.size 3 i0 _ 1 8 Tryz.underlying97 hi0 hz0 hz1 hz2 rfl (by decide) _ (hitsI s pre).length (ics (hitsI s pre)) rfl (own_below hown hbA) ⟨w5.heap.size, 0, none⟩ 1 1 [.int .i64 x.2.1] rfl rfl (cell_one_new _ _ _) (by simp [Value.oneCell']) (by unfold maxLen; omega) (by omega) (by simp; omega) ?_
           intro v' w6 hown6 hg6 _
           obtain ⟨g', cap', rfl⟩ := ownsRow_succ hown6
           have d2 := (d1.alloc (.cells #[.int .i64 x.2.1] 3)).kept hg6 (fun e => by have := (hol _ e.symm).1; omega)
           have e4 := d2.cell
           have f4 := d2.frozen))
      have K12 := keeps_below (B := W0.heap.size) hbA
      have K3 := keeps_row (B := W0.heap.size) (own_below hown hbA) hg6
      have up : ∀ {b t u} (z : Value), Boxed W b t u → b < W0.heap.size → b ≠ w.heap.size + 2 → Boxed (w6.setCell ⟨w.heap.size + 2, 0, none⟩ z) b t u := fun {b t u} z hbx hbk hne => by
        have h1 : Boxed _ b t u := (hbA.block b hbx.lt).trans hbx
        exact (h1.kept hg6 (fun e => by have := (hol _ e.symm).1; omega)).other hne z
      have hBW0 : Below w.heap.size W w6 := (hbA.mono hWs).grown hg6 (by simp; omega) (fun r e => by have := (hol r e).1; omega)
      have hBW := fun z => hBW0.setCell (p := ⟨w.heap.size + 2, 0, none⟩) (show w.heap.size ≤ w.heap.size + 2 by omega) z
      refine ⟨(K12.trans K3).trans ((KeepsOthers.setCell _ _ _).from _), ⟨hBW _, fun u hu => up _ hu (by omega) (by omega)⟩, ⟨_, d2.set _, up _ g2 (by omega) (by omega), ?_⟩, hB.trans (hBW _)⟩
      rw [Hsn.out, ics_append, List.length_append]
      refine hown6.kept (grownBy_setCell' _ _ _) (.inr fun e => ?_)
      have := (hown6.lt _ e).1
      omega
  case done =>
    rintro D ys W hD hS ⟨⟨v, g1, g2, hown⟩, hB⟩ hK
    rw [hits_all hS s] at hown
    have c1 := g1.cell
    have hoK := ownsRow_putObj hown (.deferred none) hK rfl
    have hoK9 := own_less hoK (Nat.zero_le _)
    obtain ⟨Av, cv, eA, _, _, hrd⟩ := own_form hoK9
    subst eA
    have hBd := hB.trans (belowK_b (w := W0) hB0.size W D (.deferred (some [])) (.deferred none) hD hK rfl rfl)
    have hlen : (downS l s).length = (downS l s).length := rfl
    gi_wp2
    refine ⟨by simp, .inl ⟨_, _, rfl, run_takeDeferred hK, ?_⟩⟩
    exact ⟨_, results_tmp rfl _ _ _, Av, _, cv, rfl, hoK9, hBd⟩
  case stop =>
    rintro D c pre W hD hpre hF hK
    exact hF.elim
end Go.Proofs.YtmoeilkaadnnoaaGreat.Mani
/-
  The contract of the program's Asked: what is asked of a name, over the rounds of needed. Condition: what is known is looked at; at most 60 picks.
-/
namespace Go.Proofs.YtmoeilkaadnnoaaGreat.Plain
open Go Go.RowKit Go.Lib Go.Sort Go.Proofs.YtmoeilkaadnnoaaGreat.Span Go.Proofs.YtmoeilkaadnnoaaGreat.Need Go.Proofs.YtmoeilkaadnnoaaGreat.Mani Go.Proofs.YtmoeilkaadnnoaaGreat.Wire Go.Proofs.YtmoeilkaadnnoaaGreat.Depot Go.Proofs.YtmoeilkaadnnoaaGreat.Index Go.Proofs.YtmoeilkaadnnoaaGreat.Reach Go.Proofs.YtmoeilkaadnnoaaGreat.Pick Go.Proofs.YtmoeilkaadnnoaaGreat.Fit
set_option linter.unusedVariables false
attribute [local go_sem] Oper.semAt_some
theorem needs_short9 {X : List Kn} {a : ByteArray} {v : Int} (hf : FineX X) {q : Nd} (hq : q ∈ needsX X a v) : q.1.size ≤ 100 := by
  unfold needsX relX at hq
  cases g : getR (getX X a).1 v with
  | none => rw [g] at hq; cases hq
  | some r =>
    rw [g] at hq
    exact (((hf.get a).2 r (getR_mem g).1).2 q hq).1
section
variable (X : List Kn) (root : List Nd) (l : List Pk) (nm : ByteArray)
noncomputable def askK : Nat → List S
  | 0 => allS
  | k + 1 => askF X nm (narrow allS (findS root nm)) (l.take k)
theorem askK_next {k : Nat} (hk : k < l.length + 1) : askK X root l nm (k + 1) = narrow (askK X root l nm k) (findS (LsX X root l k) nm) := by
  cases k with
  | zero => rfl
  | succ j =>
    have hj : j < l.length := by omega
    have h : l[j]? = some l[j] := List.getElem?_eq_getElem hj
    have e : LsX X root l (j + 1) = needsX X l[j].1 l[j].2 := by
      show (match l[j]? with | some p => needsX X p.1 p.2 | none => []) = _
      rw [h]
    rw [e]
    exact askF_next h
theorem askK_all : askK X root l nm (l.length + 1) = askedX X root l nm := by
  show askF X nm (narrow allS (findS root nm)) (l.take l.length) = _
  rw [List.take_of_length_le (Nat.le_refl _), asked_is]
variable {X root}
theorem askK_ok (hs : SetX X) (hok : okS root = true) (k : Nat) : isSet (-1) (askK X root l nm k) = true := by
  cases k with
  | zero => exact allS_set
  | succ j => exact (askF_ok hs nm (l.take j) (narrow_set allS_set (findS root nm))).1
def NdOk (nm : ByteArray) (N : List Nd) : Prop := (∀ q ∈ N, q.1.size ≤ 1000000000 ∧ q.2.length ≤ 1000000001) ∧ N.length ≤ 6 ∧ (∀ q ∈ N, q.1.size ≤ 100) ∧ ∀ x, findS N nm = some x → isSet (-1) x = true
theorem ndOk_nil : NdOk nm [] := ⟨fun q hq => by (cases hq), by simp, fun q hq => by (cases hq), fun x hx => by (cases hx)⟩
theorem ndOk_needs (hf : FineX X) (hs : SetX X) (a : ByteArray) (v : Int) : NdOk nm (needsX X a v) :=
  ⟨fun q hq => ⟨by have := needs_short9 hf hq; omega, by have := ((needs_sets hs a v).2 q hq).2; omega⟩, (needs_sets hs a v).1, fun q hq => needs_short9 hf hq, fun x hx => ((needs_sets hs a v).2 _ (find_in hx)).1⟩
theorem lsX_ok (hf : FineX X) (hs : SetX X) (hok : okS root = true) (hrn : ∀ q ∈ root, q.1.size ≤ 100) (k : Nat) : NdOk nm (LsX X root l k) := by
  cases k with
  | zero => exact ⟨fun q hq => ⟨by have := hrn q hq; omega, by have := ((okS_parts hok).2.2.2 q hq).2; omega⟩, (okS_parts hok).2.1, hrn, fun x hx => ((okS_parts hok).2.2.2 _ (find_in hx)).1⟩
  | succ j =>
    have e : LsX X root l (j + 1) = (match l[j]? with | some p => needsX X p.1 p.2 | none => []) := rfl
    rw [e]
    cases l[j]? with
    | none => exact ndOk_nil nm
    | some p => exact ndOk_needs nm hf hs p.1 p.2
end
section
variable (X : List Kn) (root : List Nd) (l : List Pk) (nm : ByteArray) (o : Option Addr) (Ar : Option Addr) (nr cr : Nat) (Al : Option Addr) (nl cl : Nat) (w : World)
set_option maxHeartbeats 8000000 in
set_option maxRecDepth 100000 in
theorem askedP_any (hX : TellsX w (.pointer o) X) (hf : FineX X) (hs : SetX X) (hr : NdOn w Ar nr root) (hok : okS root = true) (hrn : ∀ q ∈ root, q.1.size ≤ 100) (hp : PkOn w Al nl l) (hnl : nl ≤ 100) (hpq : ∀ q ∈ l, q.1.size ≤ 200) :
    Calls Tryz.prog 19 #[.pointer o, .slice Ar nr cr, .slice Al nl cl, .string nm] w (Makes w (askedX X root l nm)) := by
  unfold Makes
  have hall : askK X root l nm (nl + 1) = askedX X root l nm := by rw [← hp.len]; exact askK_all X root l nm
  have Hnx := hide (fun (k : Nat) (hk : k < nl + 1) => askK_next X root l nm (k := k) (by rw [hp.len]; exact hk))
  have Hok := hide (fun (k : Nat) => askK_ok l nm hs hok k)
  have Hls := hide (fun (k : Nat) => lsX_ok l nm hf hs hok hrn k)
  have HA := hide (fun (wx : World) => all_any wx)
  have HN := hide (fun (wx : World) => needed_any o Ar nr cr Al nl cl wx)
  have HM := hide (fun (Ax Az : Option Addr) (nx cx nz cz : Nat) (a b : List S) (wx : World) (hx : SpOn wx Ax nx a) (hz : SpOn wx Az nz b) (ha : isSet (-1) a = true) (hb : isSet (-1) b = true) => @meet_any _ nx cx _ nz cz Ax Az a b wx hx hz (Nat.le_refl _) (Nat.le_refl _) ha hb)
  refine (callsIn_wide (n := 9)).1 ?_
  refine callsIn_of_wp_marks Tryz.func19 rfl trivial ?_ rfl
  simp only [Tryz.ntmps19, List.size_toArray, List.length_cons, List.length_nil, Nat.reduceAdd, Nat.reduceSub, Array.replicate_succ, Array.replicate_zero, List.push_toArray, List.append_toArray, List.nil_append, List.cons_append]
  have hba : Below w.heap.size w (w.alloc (.cells #[.string nm] 9)) := (Below.refl _ _).alloc (Nat.le_refl _) _
  have hxa : Boxed (w.alloc (.cells #[.string nm] 9)) w.heap.size 9 (.string nm) := Boxed.new w _ _
  gi_wp2_with (first
    | (refine ⟨trivial, ?_⟩
       gi_at_call 38
       refine (callsIn_wide.2 (HA.out _)).mono ?_
       rintro e w1 ⟨A1, n1, c1, rfl, hS1, hb1⟩)
    | (refine ⟨trivial, ?_⟩
       gi_at_call 33
       refine (callsIn_wide.2 (HN.out _)).mono ?_
       rintro e w3 ⟨rfl, rfl⟩))
  obtain ⟨bi, hbi⟩ : ∃ bi, bi = w1.heap.size := ⟨_, rfl⟩
  have hb1s := hb1.size
  rw [World.size_alloc] at hb1s
  have hbw1 : Below w.heap.size w w1 := hba.trans (hb1.mono (by simp))
  have xa1 : Boxed w1 w.heap.size 9 (.string nm) := (hb1.block _ hxa.lt).trans hxa
  obtain ⟨W0, hW0⟩ : ∃ W0, W0 = ((((w1.alloc (.cells #[.slice A1 n1 c1] 46)).alloc (.cells #[.pointer o] 30)).alloc (.cells #[.slice Ar nr cr] 23)).alloc (.cells #[.slice Al nl cl] 27)) := ⟨_, rfl⟩
  have hsz0 : W0.heap.size = bi + 4 := by rw [hW0, hbi]; simp
  have hBa : Below w1.heap.size w1 W0 := by
    rw [hW0]
    exact ((((Below.refl _ _).alloc (Nat.le_refl _) _).alloc (by simp) _).alloc (by simp; omega) _).alloc (by simp; omega) _
  have hB0 : Below w.heap.size w W0 := hbw1.trans (hBa.mono hbw1.size)
  have bN : Boxed W0 w.heap.size 9 (.string nm) := (hBa.block _ xa1.lt).trans xa1
  have hS0 : SpOn W0 A1 n1 (askK X root l nm 0) := SpOn.on hS1 hBa
  have bI : Boxed W0 bi 46 (.slice A1 n1 c1) := by
    rw [hW0, hbi]
    exact (((Boxed.new w1 46 (.slice A1 n1 c1)).alloc _).alloc _).alloc _
  have bX : Boxed W0 (bi + 1) 30 (.pointer o) := by
    rw [hW0, hbi]
    have := ((Boxed.new (w1.alloc (.cells #[.slice A1 n1 c1] 46)) 30 (.pointer o)).alloc (.cells #[.slice Ar nr cr] 23)).alloc (.cells #[.slice Al nl cl] 27)
    rwa [World.size_alloc] at this
  have bR : Boxed W0 (bi + 1 + 1) 23 (.slice Ar nr cr) := by
    rw [hW0, hbi]
    have := (Boxed.new ((w1.alloc (.cells #[.slice A1 n1 c1] 46)).alloc (.cells #[.pointer o] 30)) 23 (.slice Ar nr cr)).alloc (.cells #[.slice Al nl cl] 27)
    rwa [World.size_alloc, World.size_alloc] at this
  have bL : Boxed W0 (bi + 1 + 1 + 1) 27 (.slice Al nl cl) := by
    rw [hW0, hbi]
    have := Boxed.new (((w1.alloc (.cells #[.slice A1 n1 c1] 46)).alloc (.cells #[.pointer o] 30)).alloc (.cells #[.slice Ar nr cr] 23)) 27 (.slice Al nl cl)
    rwa [World.size_alloc, World.size_alloc, World.size_alloc] at this
  rw [← hW0, ← hbi]
  rw [← hbi] at hb1s
  clear hbi hW0 HA HN hBa hS1 hb1 xa1 hxa hba hbw1
  refine range_told (N := nl + 1) (Rd := RdX X root l w) (Kp := KpN w.heap.size [bi + 1, bi + 1 + 1, bi + 1 + 1 + 1]) rfl (by omega) (gf := 59) (lb := #[.pointer (some ⟨bi + 1 + 1, 0, none⟩), .pointer (some ⟨bi + 1 + 1 + 1, 0, none⟩), .pointer (some ⟨bi + 1, 0, none⟩)]) rfl trivial (enters_of Tryz.func59 (by kernel_rfl) rfl)
    (needed_rounds X root l o Ar nr cr Al nl cl w W0 8 (by omega) _ _ _ hB0 hX hf hr hp (by omega) hpq bX bR bL)
    (fun k args W h => by obtain ⟨A, n, c, e, _⟩ := h; rw [e]; rfl)
    (rdX_abide _)
    (fun k W => Boxed W w.heap.size 9 (.string nm) ∧ (∃ A n c, Boxed W bi 46 (.slice A n c) ∧ SpOn W A n (askK X root l nm k)) ∧ Below w.heap.size w W)
    (fun k W W' row h hg hr => by
      obtain ⟨g1, ⟨A, n, c, g2, g3⟩, hB⟩ := h
      exact ⟨g1.kept hg (fun e => by have := (hr _ e.symm).1; omega), ⟨A, n, c, g2.kept hg (fun e => by have := (hr _ e.symm).1; omega), (spIn_abide g3 hg (fun r e => (hr r e).2)).more hg.size⟩, hB.grown hg hB.size (fun r e => by have := (hr r e).1; omega)⟩)
    ⟨bN, ⟨A1, n1, c1, bI, hS0⟩, hB0⟩
    kpN_t (fun W l o o' hl h h1 => kpN_b W l o o' (by omega) h h1)
    (fun args => { tmps := #[.pointer o, .slice Ar nr cr, .slice Al nl cl, .string nm, undef, undef, undef, .pointer (some ⟨w.heap.size, 0, none⟩), .slice none 0 0, .pointer (some ⟨bi, 0, none⟩), args.getD 0 undef, undef, undef, .slice A1 n1 c1, .pointer o, .slice Ar nr cr, .slice Al nl cl, .func (.func 59) #[] #[.pointer (some ⟨bi + 1 + 1, 0, none⟩), .pointer (some ⟨bi + 1 + 1 + 1, 0, none⟩), .pointer (some ⟨bi + 1, 0, none⟩)], args.getD 0 undef, undef, undef, undef, undef, undef, undef, undef, undef, undef, undef, undef], defers := [] })
    ?assign ?body ?done
  case assign =>
    rintro lx k args W K ⟨A, n, c, rfl, h⟩ hK
    gi_wp2
    exact hK
  case body =>
    rintro lx k args W ⟨g1, ⟨A, n, c, g2, g3⟩, hB⟩ ⟨Az, nz, cz, rfl, hz0⟩ hk
    have hz : NdOn W Az nz (LsX X root l k) := hz0.elim (fun h => h.on) (fun h => NdOn.on h hB)
    clear hz0
    have hN := Hls.out k
    have hzl := hz.len
    have HF := hide (findN_any (LsX X root l k) nm Az nz cz W hz hN.1 (by have := hN.2.1; omega))
    have hst := Hnx.out k hk
    have hoS := Hok.out k
    have hgs := hN.2.2.2
    have c1 := g1.cell
    have hWs := hB.size
    have hg2 := g2.lt
    unfold Finds at HF
    clear hN hzl Hnx Hok Hls hall hS0 bI bN bX bR bL hB0 hX hf hs hr hok hrn hp hpq hz
    generalize askK X root l nm (k + 1) = a1 at *
    generalize askK X root l nm k = a0 at *
    generalize LsX X root l k = N at *
    cases g : findS N nm with
    | none =>
      rw [g] at HF hst
      have Hst : Hid (a1 = a0) := hide hst
      clear hst hgs HM
      gi_wp2_with (refine ⟨trivial, ?_⟩
                   gi_at_call 39
                   refine (CallsIn.inRound lx (callsIn_wide.2 HF.out)).mono ?_
                   rintro e w5 ⟨A5, n5, c5, rfl, hS5, hb5⟩)
      exact ⟨keeps_below hb5, ⟨hb5.mono hWs, fun b _ T u hu => (hb5.block _ hu.lt).trans hu⟩, (hb5.block _ g1.lt).trans g1, ⟨A, n, ⟨c, (hb5.block _ g2.lt).trans g2⟩, by rw [Hst.out]; exact SpOn.on g3 hb5⟩, hB.trans (hb5.mono hWs)⟩
    | some s =>
      rw [g] at HF hst
      have Hst : Hid (a1 = meetS a0 s) := hide hst
      have hs6 := hgs s g
      clear hst hgs
      gi_wp2_with (first
        | (refine ⟨trivial, ?_⟩
           gi_at_call 39
           refine (CallsIn.inRound lx (callsIn_wide.2 HF.out)).mono ?_
           rintro e w5 ⟨A5, n5, c5, rfl, hS5, hb5⟩
           have d2 : Boxed w5 bi 46 (.slice A n c) := (hb5.block _ hg2).trans g2
           have e2 := d2.cell
           have h5s := hb5.size)
        | (refine ⟨trivial, ?_⟩
           gi_at_call 40
           refine (CallsIn.inRound lx (callsIn_wide.2 (HM.out A A5 n c n5 c5 a0 s _ (SpOn.on g3 hb5) hS5 hoS hs6))).mono ?_
           rintro e w6 ⟨A6, n6, c6, rfl, hN6, hb6⟩
           have d3 : Boxed w6 bi 46 (.slice A n c) := (hb6.block _ d2.lt).trans d2
           have e3 := d3.cell
           have f3 := d3.frozen))
      have hb56 := hb5.trans (hb6.mono h5s)
      have hS9 : SpOn (w6.setCell ⟨bi, 0, none⟩ (.slice A6 n6 c6)) A6 n6 (meetS a0 s) := by
        have hown := hN6.2.2.1
        obtain ⟨A', c', e, h⟩ := newS_of_own (hown.kept (grownBy_setCell' w6 bi (.slice A6 n6 c6)) (.inr fun e => by
          have := (hown.lt _ e).1
          omega))
        injection e with e _ _
        subst e
        exact h.2.2.2
      exact ⟨(keeps_below hb56).trans ((KeepsOthers.setCell _ _ _).from _), ⟨(hb56.mono hWs).setCell (p := ⟨bi, 0, none⟩) (show w.heap.size ≤ bi by omega) _, fun b hb T u hu => Boxed.other (hb56.block _ hu.lt |>.trans hu) (by simp at hb; omega) _⟩, Boxed.other ((hb56.block _ g1.lt).trans g1) (by omega) _, ⟨A6, n6, ⟨c6, d3.set _⟩, by rw [Hst.out]; exact hS9⟩, hB.trans ((hb56.mono hWs).setCell (p := ⟨bi, 0, none⟩) (show w.heap.size ≤ bi by omega) _)⟩
  case done =>
    rintro D W hD ⟨g1, ⟨A, n, c, g2, g3⟩, hB⟩ hK
    rw [hall] at g3
    have c2 := g2.cell
    gi_wp2
    refine ⟨by simp, .inl ⟨_, _, rfl, run_takeDeferred hK, ?_⟩⟩
    exact ⟨_, results_tmp rfl _ _ _, A, n, c, rfl, (spIn_abide g3 (grownBy_putObj' W D (.deferred none)) (fun r e => by injection e with e; subst e; exact ⟨_, hK, rfl⟩)).more (grownBy_putObj' W D (.deferred none)).size, hB.trans (kpN_b (n0 := w.heap.size) (bs := []) W D (.deferred (some [])) (.deferred none) (by omega) hK rfl).1⟩
end
theorem specAsked : SpecAsked := fun X root l nm pv A n c Al nl cl w h hnm => by
  obtain ⟨⟨⟨hP, hX⟩, hf, hs, hv, hl, hr, hn, hok, hrn⟩, hp, hc, hnl, hpq, hokp⟩ := h
  obtain ⟨o, rfl⟩ := hP
  exact askedP_any X root l nm o A n c Al nl cl w hX hf hs hr hok hrn hp (by omega) hpq
end Go.Proofs.YtmoeilkaadnnoaaGreat.Plain
