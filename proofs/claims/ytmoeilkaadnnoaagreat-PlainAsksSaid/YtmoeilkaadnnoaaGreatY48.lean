/-
  Some texts of this claim, one behind the other: PlainSeq. What each proves, and its condition, stands at its head.
-/
import Derived.Test.YtmoeilkaadnnoaaGreatY24
import Derived.Test.YtmoeilkaadnnoaaGreatY43
import Derived.Test.YtmoeilkaadnnoaaGreatY23
import Derived.Test.YtmoeilkaadnnoaaGreatY18
import Derived.Shelf.Abstract
import Derived.Shelf.RegionOpen
import Derived.OwnWalkIn
import Derived.TacticsInMore
import Derived.LoopNIn
import Derived.LoopIn
import Derived.Maps.AppendAt
import Derived.Laws.EntriesVeiled
/-
  The contract of the program's needed: an iterator that gives root's needs, and then those of each pick's release. Condition: what is known is looked at; at most 100 picks.
-/
namespace Go.Proofs.YtmoeilkaadnnoaaGreat.Plain
open Go Go.RowKit Go.Lib Go.Proofs.YtmoeilkaadnnoaaGreat.Span Go.Proofs.YtmoeilkaadnnoaaGreat.Need Go.Proofs.YtmoeilkaadnnoaaGreat.Mani Go.Proofs.YtmoeilkaadnnoaaGreat.Wire Go.Proofs.YtmoeilkaadnnoaaGreat.Depot Go.Proofs.YtmoeilkaadnnoaaGreat.Index Go.Proofs.YtmoeilkaadnnoaaGreat.Reach Go.Proofs.YtmoeilkaadnnoaaGreat.Pick Go.Proofs.YtmoeilkaadnnoaaGreat.Fit
set_option linter.unusedVariables false
attribute [local go_sem] Oper.semAt_some
def LsX (X : List Kn) (root : List Nd) (l : List Pk) : Nat → List Nd
  | 0 => root
  | k + 1 => match l[k]? with
    | some p => needsX X p.1 p.2
    | none => []
def RdX (X : List Kn) (root : List Nd) (l : List Pk) (we : World) (k : Nat) (args : Array Value) (W : World) : Prop := ∃ A n c, args = #[.slice A n c] ∧ (InN W A n (LsX X root l k) ∨ NdOn we A n (LsX X root l k))
theorem farT_none {W : World} {B : Nat} {T : TypeId} {row : Option Nat} (hr : ∀ r, row = some r → B ≤ r ∧ ∃ o : Obj, W.heap[r]? = some o ∧ o.isCells = false) : FarT W T row := by
  intro b cur m h e
  obtain ⟨_, o, ho, hc⟩ := hr b e.symm
  rw [ho] at h
  injection h with h
  subst h
  cases hc
theorem rdX_abide {X : List Kn} {root : List Nd} {l : List Pk} {we : World} (B k : Nat) : OwnFrom B (RdX X root l we k) := fun args W W' row h hg hr => by
  obtain ⟨A, n, c, e, h⟩ := h
  exact ⟨A, n, c, e, h.imp (fun h => InN.far h (farT_none hr) (farT_none hr) hg) id⟩
theorem spIn_abide {W W' : World} {B : Nat} {A : Option Addr} {n : Nat} {l : List S} {row : Option Nat} (h : SpIn W B A n l) (hg : W.grownBy W' row) (hr : ∀ r, row = some r → ∃ o : Obj, W.heap[r]? = some o ∧ o.isCells = false) : SpIn W' B A n l := by
  refine ⟨h.1, fun hn => ?_⟩
  obtain ⟨ad, hA, hlt, hc⟩ := h.2 hn
  exact ⟨ad, hA, hlt, fun i s hs => by
    have := hc i s hs
    revert this
    exact fun g => by first | exact ⟨cell_kept g.1 hg hr, cell_kept g.2 hg hr⟩⟩
def KpN (n0 : Nat) (bs : List Nat) (W W' : World) : Prop := Below n0 W W' ∧ ∀ k ∈ bs, ∀ T u, Boxed W k T u → Boxed W' k T u
theorem kpN_t {n0 : Nat} {bs : List Nat} {A B C : World} (h : KpN n0 bs A B) (k : KpN n0 bs B C) : KpN n0 bs A C := ⟨h.1.trans k.1, fun b hb T u hu => k.2 b hb T u (h.2 b hb T u hu)⟩
theorem kpN_b {n0 : Nat} {bs : List Nat} (W : World) (l : Nat) (o o' : Obj) (hl : n0 ≤ l) (h : W.heap[l]? = some o) (h1 : o.isCells = false) : KpN n0 bs W (W.putObj l o') := by
  have hg := grownBy_putObj' W l o'
  refine ⟨⟨hg.os, hg.tape, hg.output, hg.size, fun i hi => ?_⟩, fun k _ T u hu => hu.kept hg (fun e => ?_)⟩
  · by_cases hiw : i < W.heap.size
    · exact hg.block i hiw (by intro e; injection e with e; omega)
    · have := (Array.getElem?_eq_some_iff.1 h).1
      omega
  · injection e with e
    subst e
    rw [show W.heap[k]? = _ from hu] at h
    injection h with h
    subst h
    cases h1
theorem needed_any (o : Option Addr) (Ar : Option Addr) (nr cr : Nat) (Al : Option Addr) (nl cl : Nat) (w : World) :
    Calls Tryz.prog 33 #[.pointer o, .slice Ar nr cr, .slice Al nl cl] w fun e w' => e = .returned (.func (.func 59) #[] #[.pointer (some ⟨w.heap.size + 1, 0, none⟩), .pointer (some ⟨w.heap.size + 1 + 1, 0, none⟩), .pointer (some ⟨w.heap.size, 0, none⟩)]) ∧
      w' = ((w.alloc (.cells #[.pointer o] 30)).alloc (.cells #[.slice Ar nr cr] 23)).alloc (.cells #[.slice Al nl cl] 27) := by
  have hmf : ∀ (fn : Fn) (first cap : Array Value) (w : World), (Instr.makeFunc fn first cap).run Tryz.prog w = .ok (.func fn first cap) w := fun _ _ _ _ => rfl
  go_enter Tryz.func33, Tryz.ntmps33
  go_wp2
  go_ret
  exact ⟨rfl, rfl⟩
set_option maxRecDepth 100000 in
set_option maxHeartbeats 4000000 in
theorem needed_rounds (X : List Kn) (root : List Nd) (l : List Pk) (o : Option Addr) (Ar : Option Addr) (nr cr : Nat) (Al : Option Addr) (nl cl : Nat) (we w0 : World) (m : Nat) (hm : 3 ≤ m) (Bx Br Bl : Nat)
    (h0 : Below we.heap.size we w0) (hX : TellsX we (.pointer o) X) (hf : FineX X) (hr : NdOn we Ar nr root) (hp : PkOn we Al nl l) (hnl : nl ≤ 1000) (hpq : ∀ q ∈ l, q.1.size ≤ 200)
    (bx : Boxed w0 Bx 30 (.pointer o)) (br : Boxed w0 Br 23 (.slice Ar nr cr)) (bl : Boxed w0 Bl 27 (.slice Al nl cl)) :
    Rounds Fence.wide m Tryz.prog 59 #[.pointer (some ⟨Br, 0, none⟩), .pointer (some ⟨Bl, 0, none⟩), .pointer (some ⟨Bx, 0, none⟩)] (RdX X root l we) (KpN we.heap.size [Bx, Br, Bl]) (nl + 1) w0 := by
  intro ll J W hW hJ hY hJ0
  have hpl := hp.len
  have hbW : Below we.heap.size we W := h0.trans (hW.mono h0.size)
  have bxW : Boxed W Bx 30 (.pointer o) := (hW.block _ bx.lt).trans bx
  have brW : Boxed W Br 23 (.slice Ar nr cr) := (hW.block _ br.lt).trans br
  have blW : Boxed W Bl 27 (.slice Al nl cl) := (hW.block _ bl.lt).trans bl
  have HX := hide (fun (a : ByteArray) (wx : World) (hx : Below we.heap.size we wx) (ha : a.size ≤ 1000000000) => (hX a wx hx ha).1)
  unfold Gots at HX
  have HG := hide (fun (a : ByteArray) (v : Int) (A : Option Addr) (n c : Nat) (wx : World) (hx : RlOn wx A n (getX X a).1) => getI_any v a (getX X a).1 A n c wx hx (hf.get a))
  unfold GetsI at HG
  have HP := hide (fun (wx : World) (hx : Below we.heap.size we wx) (i : Nat) (hi : i < nl) => PkIn.at_ (PkIn.below hp hx) hi)
  have HJ := hide hJ
  have Hpq := hide hpq
  have HYs := hide hY
  have Hpl := hide hpl
  obtain ⟨fn, tmps, assign, body, hy, hR⟩ := hY 0 #[.slice Ar nr cr] W hJ0 ⟨Ar, nr, cr, rfl, .inr hr⟩ (by omega)
  have c1 := brW.cell
  clear hX hf hr hp hJ hY hJ0 hpq hpl bx br bl
  refine callsIn_of_wp Tryz.func59 rfl trivial ?_ rfl
  simp only [Tryz.ntmps59, List.size_toArray, List.length_cons, List.length_nil, Nat.reduceAdd, Nat.reduceSub, Array.replicate_succ, Array.replicate_zero, List.push_toArray, List.append_toArray, List.nil_append, List.cons_append]
  gi_wp2
  refine ⟨fun _ => by omega, hR.mono ?_⟩
  rintro e W3 ⟨rfl, hJ3, hk3⟩
  have hb3 := hbW.trans hk3.1
  have bx3 := hk3.2 Bx (by simp) _ _ bxW
  have bl3 := hk3.2 Bl (by simp) _ _ blW
  have c2 := bl3.cell
  clear hy hR hk3 c1 bxW brW blW
  gi_wp2
  gi_loopw [17] (fun p wr => ∃ (i : Nat), p = .int .i64 (i : Int) ∧ i ≤ nl ∧ J (i + 1) wr ∧ Below we.heap.size we wr ∧ Boxed wr Bx 30 (.pointer o)) (fun p _ => nl - (RowKit.intOf p).toNat)
  case atStart => exact ⟨0, rfl, Nat.zero_le _, hJ3, hb3, bx3⟩
  case round =>
    obtain ⟨i, rfl, hi, hJr, hbr, bxr⟩ := hrel
    by_cases hlt : i < nl
    · obtain ⟨ad, q, rfl, hbl, hx, k1, k2⟩ := HP.out wr hbr i hlt
      have hq := Hpq.out q (List.mem_of_getElem? hx)
      have hLs : LsX X root l (i + 1) = needsX X q.1 q.2 := by
        show (match l[i]? with | some p => needsX X p.1 p.2 | none => []) = _
        rw [hx]
      obtain ⟨x, v⟩ := q
      simp only [] at k1 k2 hq hLs
      have c3 := bxr.cell
      have hbs := hbr.size
      have hN' : needsX X x v = ((getR (getX X x).1 v).getD (0, [])).2 := rfl
      have hbA : Below wr.heap.size wr (wr.alloc (.cells #[.string x, .int .i64 v] 63)) := alloc_b _ _
      have kp0 : (wr.alloc (.cells #[.string x, .int .i64 v] 63)).cell? ⟨wr.heap.size, 0, none⟩ = some (.string x) := (Blk.new wr 63 #[.string x, .int .i64 v]).cell 0
      have hdp := Blk.new wr 63 #[.string x, .int .i64 v]
      have c4 := (bxr.alloc (.cells #[.string x, .int .i64 v] 63)).cell
      clear hx
      gi_wp2_with (first
        | (refine ⟨trivial, fun _ => by omega, ?_⟩
           gi_at_call 60
           refine (callsIn_wide.2 (HX.out x _ ?_ (by omega))).mono ?_
           · exact hbr.trans (hbA.mono hbs)
           rintro e w4 ⟨A4, n4, c4', B4, rs4, rfl, hR4, hb4⟩
           have d4 := hdp.below hb4 hdp.lt
           have e1 : w4.cell? ⟨wr.heap.size, 1, none⟩ = some (.int .i64 v) := d4.cell 1
           have e2 : (w4.alloc (.cells #[.string x, .slice A4 n4 c4'] 77)).cell? ⟨wr.heap.size, 1, none⟩ = some (.int .i64 v) := (d4.alloc _).cell 1
           have hR4o : RlOn (w4.alloc (.cells #[.string x, .slice A4 n4 c4'] 77)) A4 n4 (getX X x).1 := by
             obtain ⟨A', c', e, _, h⟩ := hR4.told
             injection e with e _ _
             subst e
             exact h.on (alloc_b _ _)
           have hb4k : Below wr.heap.size wr (w4.alloc (.cells #[.string x, .slice A4 n4 c4'] 77)) := (hbA.trans (hb4.mono (by simp))).alloc (hbA.trans (hb4.mono (by simp))).size _)
        | (refine ⟨trivial, fun _ => by omega, ?_⟩
           gi_at_call 61
           refine (callsIn_wide.2 (HG.out x v _ _ _ _ hR4o)).mono ?_
           rintro e w5 ⟨A5, n5, c5, rfl, hN5, hb5⟩
           have hb5k : Below wr.heap.size wr (w5.alloc (.cells #[.int .i64 ((getR (getX X x).1 v).getD (0, [])).1, .slice A5 n5 c5] 116)) := (hb4k.trans (hb5.mono hb4k.size)).alloc (hb4k.trans (hb5.mono hb4k.size)).size _
           obtain ⟨fn, tmps, assign, body, hy, hR⟩ := HYs.out (i + 1) #[.slice A5 n5 c5] (w5.alloc (.cells #[.int .i64 ((getR (getX X x).1 v).getD (0, [])).1, .slice A5 n5 c5] 116)) (HJ.out (i + 1) _ _ hJr hb5k) ⟨A5, n5, c5, rfl, .inl (by rw [hLs, hN']; exact InN.below hN5 (alloc_b _ _))⟩ (by omega)))
      refine ⟨fun _ => by omega, hR.mono ?_⟩
      rintro e W6 ⟨rfl, hJ6, hk6⟩
      have hb6 : Below we.heap.size we W6 := (hbr.trans (hb5k.mono hbs)).trans hk6.1
      have bx6 : Boxed W6 Bx 30 (.pointer o) := hk6.2 Bx (by simp) _ _ ((hb5k.block _ bxr.lt).trans bxr)
      clear hy hR hk6
      gi_wp2
      go_roundw
      case rel => exact ⟨i + 1, by go_num, by omega, hJ6, hb6, bx6⟩
      case measure => simp [RowKit.intOf]; omega
    · have hi2 : i = nl := by omega
      subst hi2
      gi_wp2
      go_end0
      exact ⟨⟨_, rfl⟩, hJr⟩
end Go.Proofs.YtmoeilkaadnnoaaGreat.Plain
