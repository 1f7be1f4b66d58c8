/-
  Some texts of this claim, one behind the other: TrailCompact. What each proves, and its condition, stands at its head.
-/
import Derived.Test.YtllogmokadcfmaaGreatZB20
import Derived.Test.YtllogmokadcfmaaGreatZB26
import Derived.Lib.SliceRun
import Derived.Lib.LazyBuf
import Derived.Shelf.Abstract
/-
  The contract of the library's Compact at picks: equal neighbours become one; what lies behind them is cleared. Condition: at most 1000 picks.
-/
namespace Go.Proofs.YtllogmokadcfmaaGreat.Trail
open Go Go.RowKit Go.Lib Go.Proofs.YtllogmokadcfmaaGreat.Span Go.Proofs.YtllogmokadcfmaaGreat.Need Go.Proofs.YtllogmokadcfmaaGreat.Mani Go.Proofs.YtllogmokadcfmaaGreat.Grow
open Go.Proofs.YtllogmokadcfmaaGreat.Pick
set_option linter.unusedVariables false
section
variable {w w' : World} {B : Nat}
theorem blk_setCells {b : Nat} {T : TypeId} : ∀ (vs : List Value) (o : Nat) (w : World) (cur : Array Value), Blk w b T cur → ∃ cur', Blk (w.setCells b o vs) b T cur' ∧ cur'.size = cur.size ∧ cur'.toList.take o = cur.toList.take o ∧ w.grownBy (w.setCells b o vs) (some b)
  | [], o, w, cur, h => ⟨cur, h, rfl, rfl, only_self w b⟩
  | v :: r, o, w, cur, h => by
    obtain ⟨cur', h1, h2, h3, h4⟩ := blk_setCells r (o + 1) (w.setCell ⟨b, o, none⟩ v) _ (h.set_ o v)
    have hg : w.grownBy (w.setCell ⟨b, o, none⟩ v) (some b) := only_setCell (p := ⟨b, o, none⟩) (only_self w b) (.inl rfl) _
    refine ⟨cur', h1, by rw [h2]; simp, ?_, ⟨h4.os.trans hg.os, h4.tape.trans hg.tape, h4.output.trans hg.output, Nat.le_trans hg.size h4.size, fun i hi hne => (h4.block i (Nat.lt_of_lt_of_le hi hg.size) hne).trans (hg.block i hi hne)⟩⟩
    have := congrArg (List.take o) h3
    rw [List.take_take, List.take_take, Nat.min_eq_left (by omega)] at this
    rw [this, Array.toList_setIfInBounds, List.take_set_of_le (Nat.le_refl _)]
theorem run_clear_picks {b o n c : Nat} {cur : Array Value} (h : Blk w b 78 cur) (hn : 0 < n) (hs : o + n * 2 ≤ cur.size) :
    ∃ w' cur', (∀ ty, (Builtin.clear_ #[47] ty #[.slice (some ⟨b, o, none⟩) n c]).run Tryz.prog w = .ok (.tuple #[]) w') ∧ Blk w' b 78 cur' ∧ cur'.size = cur.size ∧ cur'.toList.take o = cur.toList.take o ∧ w.grownBy w' (some b) := by
  obtain ⟨z, hz⟩ : ∃ z : Array Value, (Value.agg #[.string ByteArray.empty, .int .i64 0]).cells = z := ⟨_, rfl⟩
  have hz2 : z = #[.string ByteArray.empty, .int .i64 0] := by rw [← hz]; rfl
  have hl : (Builtin.zeroCells z n).toList.length = n * 2 := by rw [Array.length_toList, size_zeroCells, hz2]; rfl
  have h1 : ∀ v ∈ (Builtin.zeroCells z n).toList, v.oneCell' = true := by
    intro v hv
    rw [hz2] at hv
    unfold Builtin.zeroCells at hv
    simp at hv
    obtain ⟨i, _, rfl⟩ := hv
    rcases Nat.mod_two_eq_zero_or_one i with e | e <;> simp [e] <;> rfl
  have hst := run_storeCells_cells (P := Tryz.prog) b o (Builtin.zeroCells z n).toList 0 w (fun j hj => by
    rw [hl] at hj
    have : w.cell? ⟨b, o + 0 + j, none⟩ = cur[o + 0 + j]? := h.cell _
    rw [this, Array.getElem?_eq_getElem (by omega)]
    rfl) (fun j hj => h.frozen _) h1
  simp only [Nat.add_zero] at hst
  obtain ⟨cur', g1, g2, g3, g4⟩ := blk_setCells (Builtin.zeroCells z n).toList o w cur h
  refine ⟨_, cur', ?_, g1, g2, g3, g4⟩
  obtain ⟨m, rfl⟩ : ∃ m, n = m + 1 := ⟨n - 1, by omega⟩
  intro ty
  simp [Builtin.clear_, run_underlying Tryz.underlying47]
  rw [show (Value.agg #[.string ⟨#[]⟩, .int .i64 0]).cells = z from hz, hst]
  rfl
structure PkSt (w : World) (g n : Nat) (d : List Pk) (k j : Nat) (cur : Array Value) : Prop where
  blk : Blk w g 78 cur
  size : n * 2 ≤ cur.size
  low : cur.toList.take (k * 2) = pks (compL (d.take j))
  high : ∀ i q, j - 1 ≤ i → d[i]? = some q → w.cell? ⟨g, i * 2, none⟩ = some (.string q.1) ∧ w.cell? ⟨g, i * 2 + 1, none⟩ = some (.int .i64 q.2)
theorem pks_single (q : Pk) : pks [q] = [.string q.1, .int .i64 q.2] := rfl
theorem PkSt.keep {g n k j : Nat} {d : List Pk} {cur : Array Value} {q : Pk} (h : PkSt w g n d k j cur) (hj : d[j]? = some q) (hk : k ≤ j - 1) (hj1 : 1 ≤ j) (hjn : j < n) (hkl : k = (compL (d.take j)).length) (hc : compL (d.take (j + 1)) = compL (d.take j) ++ [q]) :
    ∃ cur', PkSt ((w.setCell ⟨g, k * 2, none⟩ (.string q.1)).setCell ⟨g, k * 2 + 1, none⟩ (.int .i64 q.2)) g n d (k + 1) (j + 1) cur' ∧ cur'.size = cur.size ∧ w.grownBy ((w.setCell ⟨g, k * 2, none⟩ (.string q.1)).setCell ⟨g, k * 2 + 1, none⟩ (.int .i64 q.2)) (some g) := by
  refine ⟨_, ⟨(h.blk.set_ _ _).set_ _ _, by simp; exact h.size, ?_, fun i q' hi hq => ?_⟩, by simp, only_setCell (p := ⟨g, k * 2 + 1, none⟩) (only_setCell (p := ⟨g, k * 2, none⟩) (only_self w g) (.inl rfl) _) (.inl rfl) _⟩
  · rw [hc, pks_append, ← h.low, pks_single, Array.toList_setIfInBounds, Array.toList_setIfInBounds]
    have hsz := h.size
    have hlen : cur.toList.length = cur.size := Array.length_toList
    apply List.ext_getElem?
    intro t
    rcases Nat.lt_or_ge t (k * 2) with ht | ht
    · rw [List.getElem?_take_of_lt (by omega), List.getElem?_set_ne (by omega), List.getElem?_set_ne (by omega), List.getElem?_append_left (by rw [List.length_take]; omega), List.getElem?_take_of_lt ht]
    · have e1 : (cur.toList.take (k * 2)).length = k * 2 := by rw [List.length_take]; omega
      rw [List.getElem?_append_right (by omega), e1]
      rcases Nat.lt_or_ge t (k * 2 + 2) with ht2 | ht2
      · rw [List.getElem?_take_of_lt (by omega)]
        rcases (show t = k * 2 ∨ t = k * 2 + 1 by omega) with rfl | rfl
        · rw [List.getElem?_set_ne (by omega), List.getElem?_set_self (by omega), Nat.sub_self]
          rfl
        · rw [List.getElem?_set_self (by rw [List.length_set]; omega), show k * 2 + 1 - k * 2 = 1 by omega]
          rfl
      · rw [List.getElem?_eq_none (by rw [List.length_take, List.length_set, List.length_set]; omega), List.getElem?_eq_none (by simp; omega)]
  · obtain ⟨h1, h2⟩ := h.high i q' (by omega) hq
    have hne : ∀ a b : Nat, a ≠ b → (⟨g, a, none⟩ : Addr) ≠ ⟨g, b, none⟩ := fun a b hab e => by injection e with _ e; exact hab e
    constructor
    · rw [World.cell?_setCell_other _ _ _ _ (hne _ _ (by omega)), World.cell?_setCell_other _ _ _ _ (hne _ _ (by omega))]
      exact h1
    · rw [World.cell?_setCell_other _ _ _ _ (hne _ _ (by omega)), World.cell?_setCell_other _ _ _ _ (hne _ _ (by omega))]
      exact h2
theorem PkSt.skip {g n k j : Nat} {d : List Pk} {cur : Array Value} (h : PkSt w g n d k j cur) (hc : compL (d.take (j + 1)) = compL (d.take j)) : PkSt w g n d k (j + 1) cur :=
  ⟨h.blk, h.size, by rw [hc]; exact h.low, fun i q hi hq => h.high i q (by omega) hq⟩
theorem PkSt.drewN {g n k j m : Nat} {d : List Pk} {cur : Array Value} (h : PkSt w g n d k j cur) : PkSt (w.drewN m) g n d k j cur := ⟨h.blk.drewN m, h.size, h.low, fun i q hi hq => h.high i q hi hq⟩
theorem only_bothQ {w0 w1 w2 : World} {row : Option Nat} (h : w0.grownBy w1 row) (k : w1.grownBy w2 row) : w0.grownBy w2 row :=
  ⟨k.os.trans h.os, k.tape.trans h.tape, k.output.trans h.output, Nat.le_trans h.size k.size, fun i hi hne => (k.block i (Nat.lt_of_lt_of_le hi h.size) hne).trans (h.block i hi hne)⟩
theorem comp_short {d : List Pk} (h : d.length < 2) : compL d = d := by
  match d, h with
  | [], _ => rfl
  | [x], _ => rfl
  | _ :: _ :: _, h => exact absurd h (by simp)
theorem comp_first (d : List Pk) : compL (d.take 1) = d.take 1 := comp_short (by rw [List.length_take]; omega)
set_option maxHeartbeats 8000000 in
set_option maxRecDepth 100000 in
theorem compactP_any {A : Option Addr} {n c : Nat} {d : List Pk} (h : NewP w B A n c d) (hB : B ≤ w.heap.size) (hn : n ≤ 1000) :
    Calls Tryz.prog 47 #[.slice A n c] w fun e w' => ∃ k, e = .returned (.slice A k c) ∧ NewP w' B A k c (compL d) ∧ Below B w w' := by
  have hlen := h.1
  by_cases h2 : n < 2
  · have e1 : (n : Int) < 2 := by omega
    have E := comp_short (d := d) (by omega)
    have H := hide h
    rw [E]
    clear h hlen E
    go_enter Tryz.func47, Tryz.ntmps47
    go_wp2
    go_ret
    exact ⟨n, rfl, H.out, Below.refl _ _⟩
  · obtain ⟨-, hnc, ⟨_, ho⟩, -⟩ := h
    rcases ho with ⟨_, h0⟩ | ⟨g, cap, cur, hv, hBg, hg, _, hm, hcs, ht⟩
    · omega
    injection hv with e1 e2 e3
    subst e1 e3
    have hblk : Blk w g 78 cur := hg
    have Hcell : ∀ i q, d[i]? = some q → w.cell? ⟨g, i * 2, none⟩ = some (.string q.1) ∧ w.cell? ⟨g, i * 2 + 1, none⟩ = some (.int .i64 q.2) := fun i q hq => by
      have hi := (List.getElem?_eq_some_iff.1 hq).1
      obtain ⟨s1, s2⟩ := pks_get d i q hq
      constructor
      · rw [hblk.cell, ← s1, ← ht, List.getElem?_take_of_lt (by omega), Array.getElem?_toList]
      · rw [hblk.cell, ← s2, ← ht, List.getElem?_take_of_lt (by omega), Array.getElem?_toList]
    have Hst : ∀ k, k ≤ n → cur.toList.take (k * 2) = pks (d.take k) := fun k hk => by
      rw [← pks_take, ← ht, List.take_take, Nat.min_eq_left (by omega)]
    have HC := hide Hcell
    have HS := hide Hst
    have Hblk := hide hblk
    have Hlen := hide hlen
    have Hcs := hide hcs
    have HBg := hide hBg
    have Hm := hide hm
    have e1 : ¬ (n : Int) < 2 := by omega
    clear hg ht hblk Hcell Hst hlen hcs
    go_enter Tryz.func47, Tryz.ntmps47
    go_wp2
    go_loopw [3] (fun u wr => ∃ k : Nat, u = .int .i64 (k : Int) ∧ 1 ≤ k ∧ k ≤ n ∧ Below w.heap.size w wr ∧ Hid (compL (d.take k) = d.take k)) (fun u _ => n - (RowKit.intOf u).toNat)
    case atStart => exact ⟨1, rfl, Nat.le_refl _, by omega, Below.refl _ _, hide (comp_first d)⟩
    case round =>
      obtain ⟨k, rfl, hk1, hk, hbr, hcomp⟩ := hrel
      by_cases hlt : k < n
      · obtain ⟨k', rfl⟩ : ∃ k', k = k' + 1 := ⟨k - 1, by omega⟩
        obtain ⟨q, hq⟩ : ∃ q, d[k' + 1]? = some q := ⟨_, List.getElem?_eq_getElem (by have := Hlen.out; omega)⟩
        obtain ⟨p, hp⟩ : ∃ p, d[k']? = some p := ⟨_, List.getElem?_eq_getElem (by have := Hlen.out; omega)⟩
        obtain ⟨c0, c1⟩ := HC.out _ _ hq
        obtain ⟨c2, c3⟩ := HC.out _ _ hp
        have hgl := Hblk.out.lt
        have b0 := (hbr.cell (show (⟨g, (k' + 1) * 2, none⟩ : Addr).block < _ from hgl)).trans c0
        have b1 := (hbr.cell (show (⟨g, (k' + 1) * 2 + 1, none⟩ : Addr).block < _ from hgl)).trans c1
        have b2 := (hbr.cell (show (⟨g, k' * 2, none⟩ : Addr).block < _ from hgl)).trans c2
        have b3 := (hbr.cell (show (⟨g, k' * 2 + 1, none⟩ : Addr).block < _ from hgl)).trans c3
        have hn1 : ((k' + 1 : Nat) : Int) - 1 = (k' : Int) := by omega
        have i1 : (0 : Int) ≤ ((k' + 1 : Nat) : Int) := by omega
        have i2 : ((k' + 1 : Nat) : Int) < (n : Int) := by omega
        have i3 : (0 : Int) ≤ (k' : Int) := by omega
        have i4 : (k' : Int) < (n : Int) := by omega
        have Hnx := hide (comp_next hq hp)
        have Hq := hide hq
        obtain ⟨bE, hbE⟩ : ∃ bE, decide (q = p) = bE := ⟨_, rfl⟩
        have heq := fun wx => eq_pick q.1 q.2 p.1 p.2 wx
        rw [samep_iff, hbE] at heq
        have HbE := hide hbE
        clear c0 c1 c2 c3 hq hp hbE
        cases bE with
        | true =>
          have hqp : q = p := of_decide_eq_true HbE.out
          have hst : PkSt wr g n d (k' + 1) (k' + 1 + 1) cur := by
            have e1 : compL (d.take (k' + 2)) = d.take (k' + 1) := by rw [Hnx.out, if_pos hqp.symm]; exact hcomp.out
            refine ⟨Hblk.out.below hbr hgl, by rw [Hcs.out]; omega, ?_, fun i x hi hx => ?_⟩
            · rw [show k' + 1 + 1 = k' + 2 by omega, e1]
              exact HS.out _ (by omega)
            · obtain ⟨z0, z1⟩ := HC.out i x hx
              exact ⟨(hbr.cell (show (⟨g, i * 2, none⟩ : Addr).block < _ from hgl)).trans z0, (hbr.cell (show (⟨g, i * 2 + 1, none⟩ : Addr).block < _ from hgl)).trans z1⟩
          have hkl : k' + 1 = (compL (d.take (k' + 1 + 1))).length := by
            rw [show k' + 1 + 1 = k' + 2 by omega, Hnx.out, if_pos hqp.symm, hcomp.out, List.length_take]
            have := Hlen.out
            omega
          have Hst2 := hide hst
          have Hkl := hide hkl
          have i5 : ((k' + 1 : Nat) : Int) ≤ (n : Int) := by omega
          have i6 : ((k' + 1 : Nat) : Int) ≤ (c : Int) := by omega
          have i7 : (n : Int) ≤ (c : Int) := by omega
          clear hst hkl hqp
          go_upto_region 6 with fail
          go_quiet (fail)
          go_wp2
          go_loopw [3, 5] (fun u u2 wr2 => ∃ (kk k2 : Nat) (cu : Array Value), u = .int .i64 (kk : Int) ∧ u2 = .int .i64 ((k2 + 1 : Nat) : Int) ∧ k' + 1 + (k2 + 1) ≤ n ∧ Hid (PkSt wr2 g n d kk (k' + 1 + (k2 + 1)) cu) ∧ cu.size = cur.size ∧ Hid (kk = (compL (d.take (k' + 1 + (k2 + 1)))).length) ∧ kk ≤ k' + 1 + k2 ∧ Below w.heap.size w wr ∧ wr.grownBy wr2 (some g)) (fun _ u2 _ => n - (RowKit.intOf u2).toNat)
          case atStart => exact ⟨k' + 1, 0, cur, rfl, rfl, by omega, hide Hst2.out.drewN, rfl, Hkl, by omega, hbr, only_of_below (below_drewN (Below.refl _ _) _) _⟩
          case round =>
            obtain ⟨kk, k2, cu, rfl, rfl, hle, hst, hcu, hkl, hkk, _, hgr⟩ := hrel
            have hcs := Hcs.out
            have hcb : kk * 2 + 1 < cu.size := by omega
            obtain ⟨o0, ho0⟩ : ∃ o0, cu[kk * 2]? = some o0 := ⟨_, Array.getElem?_eq_getElem (by omega)⟩
            obtain ⟨o1, ho1⟩ : ∃ o1, cu[kk * 2 + 1]? = some o1 := ⟨_, Array.getElem?_eq_getElem hcb⟩
            have y0 := (hst.out.blk.cell (kk * 2)).trans ho0
            have y1 := (hst.out.blk.cell (kk * 2 + 1)).trans ho1
            have f0 := hst.out.blk.frozen (kk * 2)
            have f1 := hst.out.blk.frozen (kk * 2 + 1)
            have j1 : (0 : Int) ≤ (kk : Int) := by omega
            have j2 : (kk : Int) < (n : Int) := by omega
            have j3 : (kk : Int) ≤ (n : Int) := by omega
            have j4 : (kk : Int) ≤ (c : Int) := by omega
            clear ho0 ho1 b0 b1 b2 b3 heq
            by_cases hlt2 : k' + 1 + (k2 + 1) < n
            · obtain ⟨x, hx⟩ : ∃ x, d[k' + 1 + (k2 + 1)]? = some x := ⟨_, List.getElem?_eq_getElem (by have := Hlen.out; omega)⟩
              obtain ⟨y, hy⟩ : ∃ y, d[k' + 1 + k2]? = some y := ⟨_, List.getElem?_eq_getElem (by have := Hlen.out; omega)⟩
              obtain ⟨c0, c1⟩ := hst.out.high _ _ (by omega) hx
              obtain ⟨c2, c3⟩ := hst.out.high _ _ (by omega) hy
              rw [show (k' + 1 + (k2 + 1)) * 2 = (k' + 1) * 2 + (k2 + 1) * 2 by omega] at c0 c1
              rw [show (k' + 1 + k2) * 2 = (k' + 1) * 2 + k2 * 2 by omega] at c2 c3
              have m1 : ((k2 + 1 : Nat) : Int) - 1 = (k2 : Int) := by omega
              have m2 : (0 : Int) ≤ ((k2 + 1 : Nat) : Int) := by omega
              have m3 : ((k2 + 1 : Nat) : Int) < ((n - (k' + 1) : Nat) : Int) := by omega
              have m4 : (0 : Int) ≤ (k2 : Int) := by omega
              have m5 : (k2 : Int) < ((n - (k' + 1) : Nat) : Int) := by omega
              have Hnx2 := hide (comp_next (l := d) (k := k' + 1 + k2) hx hy)
              have Hx := hide hx
              obtain ⟨bF, hbF⟩ : ∃ bF, decide (x = y) = bF := ⟨_, rfl⟩
              have heq2 := fun wx => eq_pick x.1 x.2 y.1 y.2 wx
              rw [samep_iff, hbF] at heq2
              have HbF := hide hbF
              clear hx hy hbF hcs hcb
              cases bF with
              | true =>
                have hxy : x = y := of_decide_eq_true HbF.out
                have hcc : compL (d.take (k' + 1 + (k2 + 1) + 1)) = compL (d.take (k' + 1 + (k2 + 1))) := by
                  rw [show k' + 1 + (k2 + 1) + 1 = k' + 1 + k2 + 2 by omega, Hnx2.out, if_pos hxy.symm]
                  rfl
                have Hst3 := hide (hst.out.skip hcc)
                have Hkl3 : Hid (kk = (compL (d.take (k' + 1 + (k2 + 1) + 1))).length) := hide (by rw [hcc]; exact hkl.out)
                clear hcc hxy
                go_upto_region 11 with fail
                go_quiet (fail)
                go_wp2
                go_roundw
                case rel => exact ⟨kk, k2 + 1, cu, rfl, by go_num, by omega, hide Hst3.out.drewN, hcu, Hkl3, by omega, hbr, only_bothQ hgr (only_of_below (below_drewN (Below.refl _ _) _) _)⟩
                case measure => simp [RowKit.intOf]; omega
              | false =>
                have hxy : ¬ y = x := fun e => of_decide_eq_false HbF.out e.symm
                have hcc : compL (d.take (k' + 1 + (k2 + 1) + 1)) = compL (d.take (k' + 1 + (k2 + 1))) ++ [x] := by
                  rw [show k' + 1 + (k2 + 1) + 1 = k' + 1 + k2 + 2 by omega, Hnx2.out, if_neg hxy]
                  rfl
                have Hkp := hide (fun m => PkSt.keep (hst.out.drewN (m := m)) Hx.out (by omega) (by omega) hlt2 hkl.out hcc)
                have Hkl3 : Hid (kk + 1 = (compL (d.take (k' + 1 + (k2 + 1) + 1))).length) := hide (by rw [hcc, List.length_append, ← hkl.out]; rfl)
                clear hcc hxy
                go_upto_region 11 with fail
                go_quiet (fail)
                go_wp2
                go_roundw
                case rel =>
                  obtain ⟨cu', k9, k8, k7⟩ := Hkp.out nq
                  exact ⟨kk + 1, k2 + 1, cu', by go_num, by go_num, by omega, hide k9, by rw [k8]; exact hcu, Hkl3, by omega, hbr, only_bothQ hgr (only_bothQ (only_of_below (below_drewN (Below.refl _ _) _) _) k7)⟩
                case measure => simp [RowKit.intOf]; omega
            · have hend : k' + 1 + (k2 + 1) = n := by omega
              have m3 : ¬ ((k2 + 1 : Nat) : Int) < ((n - (k' + 1) : Nat) : Int) := by omega
              obtain ⟨w9, cu9, hrun, hb9, hs9, ht9, hg9⟩ := run_clear_picks (o := kk * 2) (n := n - kk) (c := c - kk) hst.out.blk (by omega) (by omega)
              have hck : c ≠ kk := by omega
              have Hg := hide (only_bothQ hgr hg9)
              have Hcu := hide hcu
              have HN : Hid (NewP w9 B (some ⟨g, 0, none⟩) kk c (compL d)) := hide (by
                obtain ⟨A', c', e', hN⟩ := newP_of_own (w := w9) (B := B) (n := kk) (v := .slice (some ⟨g, 0, none⟩) kk c) (l := compL d) ⟨by
                    rw [pks_length, hkl.out, hend, List.take_of_length_le (by have := Hlen.out; omega)], .inr ⟨g, c, cu9, rfl, HBg.out, hb9, by omega, Hm.out, by rw [hs9, hcu]; exact hcs, by
                    rw [ht9, hst.out.low, hend, List.take_of_length_le (l := d) (by have := Hlen.out; omega)]⟩⟩
                injection e' with e1' _ e3'
                subst e1' e3'
                exact hN)
              clear hst hkl hb9 hs9 ht9 hg9 hcu hcs hcb hgr
              go_wp2
              go_ret
              exact ⟨kk, rfl, HN.out, ⟨Hg.out.os.trans hbr.os, Hg.out.tape.trans hbr.tape, Hg.out.output.trans hbr.output, Nat.le_trans hbr.size Hg.out.size, fun i hi => (Hg.out.block i (by have := hbr.size; omega) (fun e => by injection e with e; have := HBg.out; omega)).trans (hbr.block i (by omega))⟩⟩
        | false =>
          have hqp : ¬ p = q := fun e => of_decide_eq_false HbE.out e.symm
          have hc2 : compL (d.take (k' + 1 + 1)) = d.take (k' + 1 + 1) := by
            rw [show k' + 1 + 1 = k' + 2 by omega, Hnx.out, if_neg hqp, hcomp.out]
            exact (take_snoc' d (k' + 1) q Hq.out).symm
          have Hc2 := hide hc2
          clear hc2 hqp
          go_upto_region 6 with fail
          go_quiet (fail)
          go_wp2
          go_roundw
          case rel => exact ⟨k' + 1 + 1, by go_num, by omega, by omega, below_drewN hbr _, Hc2⟩
          case measure => simp [RowKit.intOf]; omega
      · have hkn : k = n := by omega
        subst hkn
        have E : compL d = d := by
          have := hcomp.out
          rwa [List.take_of_length_le (by have := Hlen.out; omega)] at this
        have HE := hide E
        clear E
        go_wp2
        go_ret
        refine ⟨k, rfl, ?_, hbr.mono hB⟩
        rw [HE.out]
        have hb9 := Hblk.out.below hbr Hblk.out.lt
        obtain ⟨A', c', e', hN⟩ := newP_of_own (w := wr) (B := B) (n := k) (v := .slice (some ⟨g, 0, none⟩) k c) (l := d) ⟨by rw [pks_length]; have := Hlen.out; omega, .inr ⟨g, c, cur, rfl, HBg.out, hb9, hnc, Hm.out, Hcs.out, by have := HS.out k (Nat.le_refl _); rwa [List.take_of_length_le (l := d) (i := k) (by have := Hlen.out; omega)] at this⟩⟩
        injection e' with e1' _ e3'
        subst e1' e3'
        exact hN
end
end Go.Proofs.YtllogmokadcfmaaGreat.Trail
