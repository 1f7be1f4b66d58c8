/-
  Some texts of this claim, one behind the other: WireRdS, WireTakeS, WireTakeN, WireTakeR, WireTake, WireRead, WireRefNeeds, WireRefRead, WireAwake. What each proves, and its condition, stands at its head.
-/
import Derived.Test.YtdmejcfnolhplaaGreatZA29
import Derived.Test.YtdmejcfnolhplaaGreatZA8
import Derived.Test.YtdmejcfnolhplaaGreatZA6
import Derived.Test.YtdmejcfnolhplaaGreatChecked
import Derived.Test.YtdmejcfnolhplaaGreatZA17
import Derived.Test.YtdmejcfnolhplaaGreatZA7
import Derived.Test.YtdmejcfnolhplaaGreatZA3
import Derived.Test.YtdmejcfnolhplaaGreatZA13
import Derived.Shelf.Abstract
import Derived.Test.YtdmejcfnolhplaaGreatZA21
import Derived.Test.YtdmejcfnolhplaaGreatZA10
import Derived.Deep.RegionHeld3
import Derived.Laws.EntriesVeiled
/-
  The program's reader as it is told by what is left: its contracts over a state of bytes and an error. Condition: no more than 2^40 bytes.
-/
namespace Go.Proofs.YtdmejcfnolhplaaGreat.Wire
open Go Go.RowKit Go.Lib Go.Proofs.YtdmejcfnolhplaaGreat.Span Go.Proofs.YtdmejcfnolhplaaGreat.Need Go.Proofs.YtdmejcfnolhplaaGreat.Mani Go.Proofs.YtdmejcfnolhplaaGreat.Grow
open Go.Proofs.YtdmejcfnolhplaaGreat.Vlq (RdV RdM num_any str_any numR strR numM strM numM_of strM_of numR_le strR_le refRdNum_any refRdStr_any)
set_option linter.unusedVariables false
theorem RdS.far {w : World} {g : Nat} {s : St} (h : RdS w g s) {T : TypeId} (hne : T ≠ 183) : FarT w T (some g) := by
  obtain ⟨L, j, ⟨A, c, hb, _⟩, _⟩ := h
  exact farT_blk hb hne
end Go.Proofs.YtdmejcfnolhplaaGreat.Wire
/-
  The program's reading of a span, and of a list of spans: what the plain mathematics tells, and what is left. Condition: at most 100.
-/
namespace Go.Proofs.YtdmejcfnolhplaaGreat.Wire
open Go Go.RowKit Go.Lib Go.Proofs.YtdmejcfnolhplaaGreat.Span Go.Proofs.YtdmejcfnolhplaaGreat.Need Go.Proofs.YtdmejcfnolhplaaGreat.Mani Go.Proofs.YtdmejcfnolhplaaGreat.Grow
set_option linter.unusedVariables false
theorem only_then {a b c : World} {row row' : Option Nat} (h : a.grownBy b row) (k : b.grownBy c row') (hr : ∀ j, row' = some j → a.heap.size ≤ j ∨ row = some j) : a.grownBy c row :=
  ⟨k.os.trans h.os, k.tape.trans h.tape, k.output.trans h.output, Nat.le_trans h.size k.size, fun i hi hne => (k.block i (Nat.lt_of_lt_of_le hi h.size) (fun e => by
    rcases hr i e.symm with h2 | h2
    · omega
    · exact hne h2.symm)).trans (h.block i hi hne)⟩
theorem blk_far {w w' : World} {b g : Nat} {t : TypeId} {cs : Array Value} (h : Blk w b t cs) (hne : b ≠ g) (hg : w.grownBy w' (some g)) : Blk w' b t cs := h.grown hg (by intro e; injection e with e; exact hne e)
theorem only_own {w0 w1 w2 : World} {g size n : Nat} {T : TypeId} {v : Value} {xs : List Value} (h : w0.grownBy w1 (some g)) (hown : w1.ownsRow w0.heap.size T size v n xs) (hg : w1.grownBy w2 v.ownBlock) : w0.grownBy w2 (some g) :=
  only_then h hg fun j hj => .inl (hown.lt j hj).1
theorem only_both {w0 w1 w2 : World} {g : Nat} (h : w0.grownBy w1 (some g)) (k : w1.grownBy w2 (some g)) : w0.grownBy w2 (some g) := only_then h k fun j hj => .inr hj
theorem cell_far2 {w : World} {b h : Nat} {u v x : Value} (hc : w.cell? ⟨b, 0, none⟩ = some x) (hne : b ≠ h) : ((w.setCell ⟨h, 0, none⟩ u).setCell ⟨h, 1, none⟩ v).cell? ⟨b, 0, none⟩ = some x := by
  rw [World.cell?_setCell_other _ _ _ _ (fun e => by first | exact hne (congrArg Addr.block e) | exact hne (congrArg Addr.block e).symm), World.cell?_setCell_other _ _ _ _ (fun e => by first | exact hne (congrArg Addr.block e) | exact hne (congrArg Addr.block e).symm)]
  exact hc
theorem alloc_only (w : World) (o : Obj) (row : Option Nat) : w.grownBy (w.alloc o) row := World.grownBy_alloc w o row
theorem reads_span (w : World) (a b : Int) (T : TypeId) (g : Nat) (hg : g = w.heap.size) : Reads (w.alloc (.cells #[.int .i64 a, .int .i64 b] T)) (w.heap.size + 1) 2 (some ⟨g, 0, none⟩) 1 (scs [(a, b)]) := by
  subst hg
  have h := Reads.newL w T #[.int .i64 a, .int .i64 b]
  exact ⟨rfl, fun _ => h.2 (by simp)⟩
set_option maxHeartbeats 1600000 in
set_option maxRecDepth 100000 in
theorem takeSpan_any (g b0 : Nat) (s : St) (w : World) (hr : RdS w g s) (hb : Blk w b0 151 #[.pointer (some ⟨g, 0, none⟩)]) (hne : b0 ≠ g) :
    Calls Tryz.prog 129 #[.pointer (some ⟨b0, 0, none⟩)] w fun e w' =>
      e = .returned (.agg #[.int .i64 (spanS s).1.1, .int .i64 (spanS s).1.2]) ∧ RdS w' g (spanS s).2 ∧ w.grownBy w' (some g) := by
  have hglt := hr.lt
  have h1 := numS_le 1000000000 (by omega) s
  have H1 := hide (fun (wx : World) (h : RdS wx g s) => num_S g s 1000000000 wx h)
  have h2 := numS_le 1000000000 (by omega) (numS 1000000000 s).2
  have H2 := hide (fun (wx : World) (h : RdS wx g (numS 1000000000 s).2) => num_S g (numS 1000000000 s).2 1000000000 wx h)
  unfold spanS
  simp only
  generalize hn1 : (numS 1000000000 s).2 = s1 at *
  generalize hn2 : (numS 1000000000 s).1 = n1 at *
  generalize (numS 1000000000 s1).2 = s2 at *
  generalize (numS 1000000000 s1).1 = n2 at *
  clear hn1 hn2
  obtain ⟨z0, z1⟩ := h1
  obtain ⟨z2, z3⟩ := h2
  go_enter Tryz.func129, Tryz.ntmps129
  go_upto_region 1 with fail
  obtain ⟨W, hW⟩ : ∃ W, W = w.alloc (.cells #[.int .i64 0, .int .i64 0] 67) := ⟨_, rfl⟩
  have hgW : w.grownBy W (some g) := by rw [hW]; exact alloc_only _ _ _
  have hB : Blk W w.heap.size 67 #[.int .i64 0, .int .i64 0] := by rw [hW]; exact Blk.new _ _ _
  have hb' : Blk W b0 151 #[.pointer (some ⟨g, 0, none⟩)] := by rw [hW]; exact hb.alloc _
  have hr' : RdS W g s := by rw [hW]; exact hr.alloc _
  rw [← hW]
  clear hW hb hr
  have c0 := (hb'.cell 0).trans (show (#[Value.pointer (some ⟨g, 0, none⟩)] : Array Value)[0]? = some (.pointer (some ⟨g, 0, none⟩)) from rfl)
  go_wp2_with (first
    | (go_at_call 130
       have g7 := hr1
       refine (H2.out _ hr1).mono ?_
       rintro e w2 ⟨rfl, hr2, hg2⟩
       have hB2 := blk_far hB1 (by omega) hg2
       have f0 := hB2.frozen 0
       have f1 := hB2.frozen 1
       have k0 := (hB2.cell 0).trans (show (#[Value.int .i64 0, .int .i64 0] : Array Value)[0]? = some (.int .i64 0) from rfl)
       have k1 := (hB2.cell 1).trans (show (#[Value.int .i64 0, .int .i64 0] : Array Value)[1]? = some (.int .i64 0) from rfl))
    | (go_at_call 130
       refine (H1.out _ hr').mono ?_
       rintro e w1 ⟨rfl, hr1, hg1⟩
       have hB1 := blk_far hB (by omega) hg1
       have hb1 := blk_far hb' hne hg1
       have c1 := (hb1.cell 0).trans (show (#[Value.pointer (some ⟨g, 0, none⟩)] : Array Value)[0]? = some (.pointer (some ⟨g, 0, none⟩)) from rfl)))
  have hblk := (hB2.set_ 0 (.int .i64 n1)).set_ 1 (.int .i64 (n1 + n2))
  have hgs : w2.grownBy ((w2.setCell ⟨w.heap.size, 0, none⟩ (.int .i64 n1)).setCell ⟨w.heap.size, 1, none⟩ (.int .i64 (n1 + n2))) (some w.heap.size) := only_setCell (p := ⟨w.heap.size, 1, none⟩) (only_setCell (p := ⟨w.heap.size, 0, none⟩) (only_self w2 w.heap.size) (.inl rfl) _) (.inl rfl) _
  refine bodyPost_ret (results_cell_row rfl _ _ w.heap.size 67 _ (0, 0) _ rfl hblk Tryz.underlying67 rfl rfl) rfl ?_
  exact ⟨rfl, hr2.grown hgs (fun k hk => by injection hk with hk; omega), only_then (only_both (only_both hgW hg1) hg2) hgs fun j hj => .inl (by injection hj with hj; omega)⟩
set_option maxHeartbeats 1600000 in
set_option maxRecDepth 100000 in
theorem takeListS_any (g b0 : Nat) (s : St) (most : Int) (w : World) (hm : 0 ≤ most ∧ most ≤ 100) (hr : RdS w g s) (hb : Blk w b0 151 #[.pointer (some ⟨g, 0, none⟩)]) (hne : b0 ≠ g) :
    Calls Tryz.prog 133 #[.pointer (some ⟨g, 0, none⟩), .int .i64 most, .func (.func 129) #[] #[.pointer (some ⟨b0, 0, none⟩)]] w fun e w' =>
      ∃ A n c, e = .returned (.slice A n c) ∧ NewS w' w.heap.size A n c (takeS most spanS s).1 ∧ RdS w' g (takeS most spanS s).2 ∧ w.grownBy w' (some g) := by
  obtain ⟨i0, hi0, hz0, hz1, hz2⟩ := info_parts info_span
  have hglt := hr.lt
  have h1 := numS_le most hm.1 s
  have H1 := hide (fun (wx : World) (h : RdS wx g s) => num_S g s most wx h)
  have hL := fun n (s' : St) => listS_len spanS n s'
  unfold takeS
  generalize (numS most s).2 = s1 at *
  obtain ⟨N, hN⟩ : ∃ N : Nat, (numS most s).1 = (N : Int) := ⟨(numS most s).1.toNat, by omega⟩
  rw [hN] at h1 H1 ⊢
  have hN2 : N ≤ 100 := by omega
  rw [Int.toNat_natCast]
  clear hN h1
  go_enter Tryz.func133, Tryz.ntmps133
  go_wp2_with (first
    | (go_at_call 130
       refine (H1.out _ hr).mono ?_
       rintro e w1 ⟨rfl, hr1, hg1⟩))
  go_loopw [7, 11] (fun v u wx => ∃ (i : Nat), i ≤ N ∧ u = .int .i64 (i : Int) ∧ wx.ownsRow w.heap.size 67 2 v i (scs (listS spanS i s1).1) ∧ RdS wx g (listS spanS i s1).2 ∧ w.grownBy wx (some g)) (fun _ u => fun _ => N - (RowKit.intOf u).toNat)
  case atStart => exact ⟨0, by omega, rfl, World.ownsRow_nil _ _ _ _, hr1, hg1⟩
  case round =>
    obtain ⟨i, hi, rfl, hown, hri, hg⟩ := hrel
    clear hr1 hg1
    have hsz := hg.size
    by_cases hlt : i < N
    · have hbi := blk_far hb hne hg
      have HF := hide (takeSpan_any g b0 (listS spanS i s1).2 wr hri hbi hne)
      have Hst := hide (show listS spanS (i + 1) s1 = ((listS spanS i s1).1 ++ [(spanS (listS spanS i s1).2).1], (spanS (listS spanS i s1).2).2) from rfl)
      have hlL := hL i s1
      have hf3 : FarT wr 67 (some g) := hri.far (by decide)
      have hlt' := hlt
      generalize (listS spanS i s1).1 = l at *
      generalize hss : (listS spanS i s1).2 = ss at *
      generalize (spanS ss).2 = st at *
      generalize (spanS ss).1 = z at *
      obtain ⟨za, zb⟩ := z
      simp only at HF
      clear hss hri hb hL
      go_wp2_with (first
        | (go_at_call 129
           refine HF.out.mono ?_
           rintro e w2 ⟨rfl, hr2, hg2⟩
           have hgw2 := only_both hg hg2
           have hown2 := own_far hown hf3 hg2
           have hsz2 := hgw2.size)
        | (at_builtin
           refine wpList_append_any _ rfl (.tmp 13) (.tmp 16) _ rfl w.heap.size 67 i0 _ 2 16 Tryz.underlying58 hi0 hz0 hz1 hz2 rfl (by omega) _ i (scs l) rfl
             (hown2.alloc _) _ _ 1 _ _ rfl (reads_span w2 za zb _ _ rfl) (scs_one _) (by simp only [maxLen]; omega) (by omega) (by simp; omega) ?_
           intro v3 w3 hown3 hg3 hat3
           have hgA := (alloc_only w2 (.cells #[.int .i64 za, .int .i64 zb] 67) (some g))
           have hgw3 := only_own (only_both hgw2 hgA) (hown2.alloc _) hg3
           have hr3 : RdS w3 g st := (hr2.alloc _).grown hg3 (fun k hk => by have := ((hown2.alloc (.cells #[.int .i64 za, .int .i64 zb] 67)).lt k hk).1; omega)
           rw [← scs_append] at hown3))
      go_roundw
      case rel => exact ⟨i + 1, by omega, by go_num, by first | exact hown3 | (rw [Hst.out]; exact hown3), by rw [Hst.out]; exact hr3, hgw3⟩
      case measure => simp [RowKit.intOf]; omega
    · have hi2 : i = N := by omega
      subst hi2
      obtain ⟨A9, c9, rfl, hN9⟩ := newS_of_own hown
      go_wp2
      go_ret
      exact ⟨_, _, _, rfl, hN9, hri, hg⟩
end Go.Proofs.YtdmejcfnolhplaaGreat.Wire
/-
  The program's reading of a need, and of a list of needs: what the plain mathematics tells, and what is left. Condition: at most 100.
-/
namespace Go.Proofs.YtdmejcfnolhplaaGreat.Wire
open Go Go.RowKit Go.Lib Go.Proofs.YtdmejcfnolhplaaGreat.Span Go.Proofs.YtdmejcfnolhplaaGreat.Need Go.Proofs.YtdmejcfnolhplaaGreat.Mani Go.Proofs.YtdmejcfnolhplaaGreat.Grow
set_option linter.unusedVariables false
set_option maxHeartbeats 4000000 in
set_option maxRecDepth 100000 in
theorem takeNeed_any (g b0 b1 : Nat) (s : St) (w : World) (hr : RdS w g s) (hb : Blk w b0 151 #[.pointer (some ⟨g, 0, none⟩)]) (hne : b0 ≠ g) (hb1 : Blk w b1 184 #[.func (.func 129) #[] #[.pointer (some ⟨b0, 0, none⟩)]]) (hne1 : b1 ≠ g) :
    Calls Tryz.prog 131 #[.pointer (some ⟨b0, 0, none⟩), .pointer (some ⟨b1, 0, none⟩)] w fun e w' => ∃ A n c,
      e = .returned (.agg #[.string (needS s).1.1, .slice A n c]) ∧ InS w' 0 A n (needS s).1.2 ∧ RdS w' g (needS s).2 ∧ w.grownBy w' (some g) := by
  have hglt := hr.lt
  have hblt := hb.lt
  have hblt1 := hb1.lt
  have H1 := hide (fun (wx : World) (h : RdS wx g s) => str_S g s 24 wx h)
  have H2 := hide (fun (wx : World) hx1 hx2 hx3 => takeListS_any g b0 (strS 24 s).2 6 wx (by omega) hx1 hx2 hx3)
  unfold needS
  simp only
  generalize hn1 : (strS 24 s).2 = s1 at *
  generalize hn2 : (strS 24 s).1 = n1 at *
  generalize hn3 : (takeS 6 spanS s1).2 = s2 at *
  generalize hn4 : (takeS 6 spanS s1).1 = l2 at *
  clear hn1 hn2 hn3 hn4
  go_enter Tryz.func131, Tryz.ntmps131
  go_upto_region 1 with fail
  obtain ⟨W, hW⟩ : ∃ W, W = w.alloc (.cells #[.string ⟨#[]⟩, .slice none 0 0] 60) := ⟨_, rfl⟩
  have hgW : w.grownBy W (some g) := by rw [hW]; exact alloc_only _ _ _
  have hB : Blk W w.heap.size 60 #[.string ⟨#[]⟩, .slice none 0 0] := by rw [hW]; exact Blk.new _ _ _
  have hb' : Blk W b0 151 #[.pointer (some ⟨g, 0, none⟩)] := by rw [hW]; exact hb.alloc _
  have hl' : Blk W b1 184 #[.func (.func 129) #[] #[.pointer (some ⟨b0, 0, none⟩)]] := by rw [hW]; exact hb1.alloc _
  have hr' : RdS W g s := by rw [hW]; exact hr.alloc _
  rw [← hW]
  clear hW hb hr hb1
  have c0 := (hb'.cell 0).trans (show (#[Value.pointer (some ⟨g, 0, none⟩)] : Array Value)[0]? = some (.pointer (some ⟨g, 0, none⟩)) from rfl)
  have c1 := (hl'.cell 0).trans (show (#[Value.func (.func 129) #[] #[.pointer (some ⟨b0, 0, none⟩)]] : Array Value)[0]? = some (.func (.func 129) #[] #[.pointer (some ⟨b0, 0, none⟩)]) from rfl)
  go_region_held3 (fun w' => w'.cell? ⟨b0, 0, none⟩ = some (.pointer (some ⟨g, 0, none⟩)) ∧ w'.cell? ⟨b1, 0, none⟩ = some (.func (.func 129) #[] #[.pointer (some ⟨b0, 0, none⟩)])) (first | exact ⟨cell_far2 e0 (by omega), cell_far2 e1 (by omega)⟩ | exact ⟨e0, e1⟩ | exact ⟨d0, d1⟩ | exact ⟨c0, c1⟩ | go_keep)
    (first
      | (go_at_call 133
         refine (H2.out _ ?_ ?_ hne ).mono ?_
         · exact hr1
         · exact hb1
         rintro e w2 ⟨A2, n2, c2, rfl, hN2, hr2, hg2⟩
         have hB2 := blk_far hB1 (by omega) hg2
         have hb2 := blk_far hb1 hne hg2
         have hl2 := blk_far hl1 hne1 hg2
         have e0 := (hb2.cell 0).trans (show (#[Value.pointer (some ⟨g, 0, none⟩)] : Array Value)[0]? = some (.pointer (some ⟨g, 0, none⟩)) from rfl)
         have e1 := (hl2.cell 0).trans (show (#[Value.func (.func 129) #[] #[.pointer (some ⟨b0, 0, none⟩)]] : Array Value)[0]? = some (.func (.func 129) #[] #[.pointer (some ⟨b0, 0, none⟩)]) from rfl)
         have f0 := hB2.frozen 0
         have f1 := hB2.frozen 1
         have k0 := (hB2.cell 0).trans (show (#[Value.string ⟨#[]⟩, .slice none 0 0] : Array Value)[0]? = some (.string ⟨#[]⟩) from rfl)
         have k1 := (hB2.cell 1).trans (show (#[Value.string ⟨#[]⟩, .slice none 0 0] : Array Value)[1]? = some (.slice none 0 0) from rfl))
      | (go_at_call 132
         refine (H1.out _ ?_).mono ?_
         · exact hr'
         rintro e w1 ⟨rfl, hr1, hg1⟩
         have hg1' : W.grownBy w1 (some g) := only_both (only_drew (only_self W g)) hg1
         have hB1 := blk_far hB (by omega) hg1'
         have hb1 := blk_far hb' hne hg1'
         have hl1 := blk_far hl' hne1 hg1'
         have d0 := (hb1.cell 0).trans (show (#[Value.pointer (some ⟨g, 0, none⟩)] : Array Value)[0]? = some (.pointer (some ⟨g, 0, none⟩)) from rfl)
         have d1 := (hl1.cell 0).trans (show (#[Value.func (.func 129) #[] #[.pointer (some ⟨b0, 0, none⟩)]] : Array Value)[0]? = some (.func (.func 129) #[] #[.pointer (some ⟨b0, 0, none⟩)]) from rfl)))
  have hblk := (hB2.set_ 0 (.string (str n1))).set_ 1 (.slice A2 n2 c2)
  have hgs : w2.grownBy ((w2.setCell ⟨w.heap.size, 0, none⟩ (.string (str n1))).setCell ⟨w.heap.size, 1, none⟩ (.slice A2 n2 c2)) (some w.heap.size) := only_setCell (p := ⟨w.heap.size, 1, none⟩) (only_setCell (p := ⟨w.heap.size, 0, none⟩) (only_self w2 w.heap.size) (.inl rfl) _) (.inl rfl) _
  have hg2' : w1.grownBy w2 (some g) := hg2
  go_wp2
  refine bodyPost_ret (results_cell_row rfl _ _ w.heap.size 60 _ (0, 0) _ rfl hblk Tryz.underlying60 rfl rfl) rfl ?_
  exact ⟨A2, n2, c2, rfl, insFar (InS.of_new hN2) (farT_blk hB2 (by decide)) hgs, hr2.grown hgs (fun k hk => by injection hk with hk; omega), only_then (only_both (only_both hgW hg1') hg2') hgs fun j hj => .inl (by injection hj with hj; omega)⟩
set_option maxHeartbeats 1600000 in
set_option maxRecDepth 100000 in
theorem takeListN_any (g b0 b1 : Nat) (s : St) (most : Int) (w : World) (hm : 0 ≤ most ∧ most ≤ 100) (hr : RdS w g s) (hb : Blk w b0 151 #[.pointer (some ⟨g, 0, none⟩)]) (hne : b0 ≠ g) (hb1 : Blk w b1 184 #[.func (.func 129) #[] #[.pointer (some ⟨b0, 0, none⟩)]]) (hne1 : b1 ≠ g) :
    Calls Tryz.prog 135 #[.pointer (some ⟨g, 0, none⟩), .int .i64 most, .func (.func 131) #[] #[.pointer (some ⟨b0, 0, none⟩), .pointer (some ⟨b1, 0, none⟩)]] w fun e w' =>
      ∃ A n c, e = .returned (.slice A n c) ∧ InN w' A n (takeS most needS s).1 ∧ RdS w' g (takeS most needS s).2 ∧ w.grownBy w' (some g) := by
  obtain ⟨i0, hi0, hz0, hz1, hz2⟩ := info_parts info_need
  have hglt := hr.lt
  have h1 := numS_le most hm.1 s
  have H1 := hide (fun (wx : World) (h : RdS wx g s) => num_S g s most wx h)
  have hL := fun n (s' : St) => listS_len needS n s'
  unfold takeS
  generalize (numS most s).2 = s1 at *
  obtain ⟨N, hN⟩ : ∃ N : Nat, (numS most s).1 = (N : Int) := ⟨(numS most s).1.toNat, by omega⟩
  rw [hN] at h1 H1 ⊢
  have hN2 : N ≤ 100 := by omega
  rw [Int.toNat_natCast]
  clear hN h1
  go_enter Tryz.func135, Tryz.ntmps135
  go_wp2_with (first
    | (go_at_call 130
       refine (H1.out _ hr).mono ?_
       rintro e w1 ⟨rfl, hr1, hg1⟩))
  go_loopw [7, 11] (fun v u wx => ∃ (i : Nat) (rs : List Rw), i ≤ N ∧ u = .int .i64 (i : Int) ∧ wx.ownsRow w.heap.size 60 2 v i (rcs rs) ∧ AllIn wx 0 rs (listS needS i s1).1 ∧ RdS wx g (listS needS i s1).2 ∧ w.grownBy wx (some g)) (fun _ u => fun _ => N - (RowKit.intOf u).toNat)
  case atStart => exact ⟨0, [], by omega, rfl, World.ownsRow_nil _ _ _ _, ⟨rfl, fun i r q hr _ => by simp at hr⟩, hr1, hg1⟩
  case round =>
    obtain ⟨i, rs, hi, rfl, hown, hall, hri, hg⟩ := hrel
    clear hr1 hg1
    have hsz := hg.size
    by_cases hlt : i < N
    · have hbi := blk_far hb hne hg
      have hb1i := blk_far hb1 hne1 hg
      have HF := hide (takeNeed_any g b0 b1 (listS needS i s1).2 wr hri hbi hne hb1i hne1)
      have Hst := hide (show listS needS (i + 1) s1 = ((listS needS i s1).1 ++ [(needS (listS needS i s1).2).1], (needS (listS needS i s1).2).2) from rfl)
      have hlL := hL i s1
      have hf3 : FarT wr 60 (some g) := hri.far (by decide)
      have hf4 : FarT wr 67 (some g) := hri.far (by decide)
      have hlt' := hlt
      generalize (listS needS i s1).1 = l at *
      generalize hss : (listS needS i s1).2 = ss at *
      generalize (needS ss).2 = st at *
      generalize (needS ss).1 = z at *
      obtain ⟨za, zb⟩ := z
      simp only at HF
      clear hss hri hb hL
      go_wp2_with (first
        | (go_at_call 131
           refine HF.out.mono ?_
           rintro e w2 ⟨A2, n2, c2, rfl, hI2, hr2, hg2⟩
           have hgw2 := only_both hg hg2
           have hown2 := own_far hown hf3 hg2
           have hall2 : AllIn w2 0 rs l := hall.mono fun _ _ _ hs => insFar hs hf4 hg2
           have hsz2 := hgw2.size)
        | (at_builtin
           refine wpList_append_any _ rfl (.tmp 13) (.tmp 16) _ rfl w.heap.size 60 i0 _ 2 40 Tryz.underlying23 hi0 hz0 hz1 hz2 rfl (by omega) _ i (rcs rs) rfl
             (hown2.alloc _) _ _ 1 _ _ rfl (reads_need w2 za A2 n2 c2 _ _ rfl) (one_need _ _ _ _) (by simp only [maxLen]; omega) (by omega) (by simp; omega) ?_
           intro v3 w3 hown3 hg3 hat3
           have hgA := (alloc_only w2 (.cells #[.string za, .slice A2 n2 c2] 60) (some g))
           have hgw3 := only_own (only_both hgw2 hgA) (hown2.alloc _) hg3
           have hr3 : RdS w3 g st := (hr2.alloc _).grown hg3 (fun k hk => by have := ((hown2.alloc (.cells #[.string za, .slice A2 n2 c2] 60)).lt k hk).1; omega)
           have hall3 : AllIn w3 0 (rs ++ [(za, .slice A2 n2 c2)]) (l ++ [(za, zb)]) := ((hall2.mono fun _ _ _ hs => hs.below (alloc_b _)).append (AllIn.one (hI2.below (alloc_b _)))).mono fun _ _ _ hs => hs.grown (own_less (hown2.alloc _) (Nat.zero_le _)) hg3
           rw [← rcs_append] at hown3))
      go_roundw
      case rel => exact ⟨i + 1, rs ++ [(za, .slice A2 n2 c2)], by omega, by go_num, by first | exact hown3 | (rw [Hst.out]; exact hown3), by rw [Hst.out]; exact hall3, by rw [Hst.out]; exact hr3, hgw3⟩
      case measure => simp [RowKit.intOf]; omega
    · have hi2 : i = N := by omega
      subst hi2
      obtain ⟨A9, c9, rfl, hc9, hN9⟩ := inN_of hown hall
      go_wp2
      go_ret
      exact ⟨_, _, _, rfl, hN9, hri, hg⟩
end Go.Proofs.YtdmejcfnolhplaaGreat.Wire
/-
  The program's reading of a release, and of a list of releases: what the plain mathematics tells, and what is left. Condition: at most 100.
-/
namespace Go.Proofs.YtdmejcfnolhplaaGreat.Wire
open Go Go.RowKit Go.Lib Go.Proofs.YtdmejcfnolhplaaGreat.Span Go.Proofs.YtdmejcfnolhplaaGreat.Need Go.Proofs.YtdmejcfnolhplaaGreat.Mani Go.Proofs.YtdmejcfnolhplaaGreat.Grow
set_option linter.unusedVariables false
set_option maxHeartbeats 4000000 in
set_option maxRecDepth 100000 in
theorem takeRelease_any (g b0 b1 b2 : Nat) (s : St) (w : World) (hr : RdS w g s) (hb : Blk w b0 151 #[.pointer (some ⟨g, 0, none⟩)]) (hne : b0 ≠ g) (hb1 : Blk w b1 184 #[.func (.func 129) #[] #[.pointer (some ⟨b0, 0, none⟩)]]) (hne1 : b1 ≠ g) (hb2 : Blk w b2 186 #[.func (.func 131) #[] #[.pointer (some ⟨b0, 0, none⟩), .pointer (some ⟨b1, 0, none⟩)]]) (hne2 : b2 ≠ g) :
    Calls Tryz.prog 134 #[.pointer (some ⟨b0, 0, none⟩), .pointer (some ⟨b2, 0, none⟩)] w fun e w' => ∃ A n c,
      e = .returned (.agg #[.int .i64 (relS s).1.1, .slice A n c]) ∧ InN w' A n (relS s).1.2 ∧ RdS w' g (relS s).2 ∧ w.grownBy w' (some g) := by
  have hglt := hr.lt
  have hblt := hb.lt
  have hblt1 := hb2.lt
  have H1 := hide (fun (wx : World) (h : RdS wx g s) => num_S g s 1000000000 wx h)
  have H2 := hide (fun (wx : World) hx1 hx2 hx3 hx4 hx5 => takeListN_any g b0 b1 (numS 1000000000 s).2 6 wx (by omega) hx1 hx2 hx3 hx4 hx5)
  unfold relS
  simp only
  generalize hn1 : (numS 1000000000 s).2 = s1 at *
  generalize hn2 : (numS 1000000000 s).1 = n1 at *
  generalize hn3 : (takeS 6 needS s1).2 = s2 at *
  generalize hn4 : (takeS 6 needS s1).1 = l2 at *
  clear hn1 hn2 hn3 hn4
  go_enter Tryz.func134, Tryz.ntmps134
  go_upto_region 1 with fail
  obtain ⟨W, hW⟩ : ∃ W, W = w.alloc (.cells #[.int .i64 0, .slice none 0 0] 136) := ⟨_, rfl⟩
  have hgW : w.grownBy W (some g) := by rw [hW]; exact alloc_only _ _ _
  have hB : Blk W w.heap.size 136 #[.int .i64 0, .slice none 0 0] := by rw [hW]; exact Blk.new _ _ _
  have hb' : Blk W b0 151 #[.pointer (some ⟨g, 0, none⟩)] := by rw [hW]; exact hb.alloc _
  have hl' : Blk W b2 186 #[.func (.func 131) #[] #[.pointer (some ⟨b0, 0, none⟩), .pointer (some ⟨b1, 0, none⟩)]] := by rw [hW]; exact hb2.alloc _
  have hm' : Blk W b1 184 #[.func (.func 129) #[] #[.pointer (some ⟨b0, 0, none⟩)]] := by rw [hW]; exact hb1.alloc _
  have hr' : RdS W g s := by rw [hW]; exact hr.alloc _
  rw [← hW]
  clear hW hb hr hb1 hb2
  have c0 := (hb'.cell 0).trans (show (#[Value.pointer (some ⟨g, 0, none⟩)] : Array Value)[0]? = some (.pointer (some ⟨g, 0, none⟩)) from rfl)
  have c1 := (hl'.cell 0).trans (show (#[Value.func (.func 131) #[] #[.pointer (some ⟨b0, 0, none⟩), .pointer (some ⟨b1, 0, none⟩)]] : Array Value)[0]? = some (.func (.func 131) #[] #[.pointer (some ⟨b0, 0, none⟩), .pointer (some ⟨b1, 0, none⟩)]) from rfl)
  go_region_held3 (fun w' => w'.cell? ⟨b0, 0, none⟩ = some (.pointer (some ⟨g, 0, none⟩)) ∧ w'.cell? ⟨b2, 0, none⟩ = some (.func (.func 131) #[] #[.pointer (some ⟨b0, 0, none⟩), .pointer (some ⟨b1, 0, none⟩)])) (first | exact ⟨cell_far2 e0 (by omega), cell_far2 e1 (by omega)⟩ | exact ⟨e0, e1⟩ | exact ⟨d0, d1⟩ | exact ⟨c0, c1⟩ | go_keep)
    (first
      | (go_at_call 135
         refine (H2.out _ ?_ ?_ hne ?_ hne1).mono ?_
         · exact hr1
         · exact hb1
         · exact hm1
         rintro e w2 ⟨A2, n2, c2, rfl, hN2, hr2, hg2⟩
         have hB2 := blk_far hB1 (by omega) hg2
         have hb2 := blk_far hb1 hne hg2
         have hl2 := blk_far hl1 hne2 hg2
         have e0 := (hb2.cell 0).trans (show (#[Value.pointer (some ⟨g, 0, none⟩)] : Array Value)[0]? = some (.pointer (some ⟨g, 0, none⟩)) from rfl)
         have e1 := (hl2.cell 0).trans (show (#[Value.func (.func 131) #[] #[.pointer (some ⟨b0, 0, none⟩), .pointer (some ⟨b1, 0, none⟩)]] : Array Value)[0]? = some (.func (.func 131) #[] #[.pointer (some ⟨b0, 0, none⟩), .pointer (some ⟨b1, 0, none⟩)]) from rfl)
         have f0 := hB2.frozen 0
         have f1 := hB2.frozen 1
         have k0 := (hB2.cell 0).trans (show (#[Value.int .i64 0, .slice none 0 0] : Array Value)[0]? = some (.int .i64 0) from rfl)
         have k1 := (hB2.cell 1).trans (show (#[Value.int .i64 0, .slice none 0 0] : Array Value)[1]? = some (.slice none 0 0) from rfl))
      | (go_at_call 130
         refine (H1.out _ ?_).mono ?_
         · exact hr'
         rintro e w1 ⟨rfl, hr1, hg1⟩
         have hg1' : W.grownBy w1 (some g) := only_both (only_drew (only_self W g)) hg1
         have hB1 := blk_far hB (by omega) hg1'
         have hb1 := blk_far hb' hne hg1'
         have hl1 := blk_far hl' hne2 hg1'
         have hm1 := blk_far hm' hne1 hg1'
         have d0 := (hb1.cell 0).trans (show (#[Value.pointer (some ⟨g, 0, none⟩)] : Array Value)[0]? = some (.pointer (some ⟨g, 0, none⟩)) from rfl)
         have d1 := (hl1.cell 0).trans (show (#[Value.func (.func 131) #[] #[.pointer (some ⟨b0, 0, none⟩), .pointer (some ⟨b1, 0, none⟩)]] : Array Value)[0]? = some (.func (.func 131) #[] #[.pointer (some ⟨b0, 0, none⟩), .pointer (some ⟨b1, 0, none⟩)]) from rfl)))
  have hblk := (hB2.set_ 0 (.int .i64 n1)).set_ 1 (.slice A2 n2 c2)
  have hgs : w2.grownBy ((w2.setCell ⟨w.heap.size, 0, none⟩ (.int .i64 n1)).setCell ⟨w.heap.size, 1, none⟩ (.slice A2 n2 c2)) (some w.heap.size) := only_setCell (p := ⟨w.heap.size, 1, none⟩) (only_setCell (p := ⟨w.heap.size, 0, none⟩) (only_self w2 w.heap.size) (.inl rfl) _) (.inl rfl) _
  have hg2' : w1.grownBy w2 (some g) := hg2
  go_wp2
  refine bodyPost_ret (results_cell_row rfl _ _ w.heap.size 136 _ (0, 0) _ rfl hblk Tryz.underlying136 rfl rfl) rfl ?_
  exact ⟨A2, n2, c2, rfl, hN2.far (farT_blk hB2 (by decide)) (farT_blk hB2 (by decide)) hgs, hr2.grown hgs (fun k hk => by injection hk with hk; omega), only_then (only_both (only_both hgW hg1') hg2') hgs fun j hj => .inl (by injection hj with hj; omega)⟩
set_option maxHeartbeats 1600000 in
set_option maxRecDepth 100000 in
theorem takeListR_any (g b0 b1 b2 : Nat) (s : St) (most : Int) (w : World) (hm : 0 ≤ most ∧ most ≤ 100) (hr : RdS w g s) (hb : Blk w b0 151 #[.pointer (some ⟨g, 0, none⟩)]) (hne : b0 ≠ g) (hb1 : Blk w b1 184 #[.func (.func 129) #[] #[.pointer (some ⟨b0, 0, none⟩)]]) (hne1 : b1 ≠ g) (hb2 : Blk w b2 186 #[.func (.func 131) #[] #[.pointer (some ⟨b0, 0, none⟩), .pointer (some ⟨b1, 0, none⟩)]]) (hne2 : b2 ≠ g) :
    Calls Tryz.prog 136 #[.pointer (some ⟨g, 0, none⟩), .int .i64 most, .func (.func 134) #[] #[.pointer (some ⟨b0, 0, none⟩), .pointer (some ⟨b2, 0, none⟩)]] w fun e w' =>
      ∃ A n c, e = .returned (.slice A n c) ∧ (∃ rs, Rls w' w.heap.size (.slice A n c) n rs (takeS most relS s).1) ∧ RdS w' g (takeS most relS s).2 ∧ w.grownBy w' (some g) := by
  obtain ⟨i0, hi0, hz0, hz1, hz2⟩ := info_parts info_rel
  have hglt := hr.lt
  have h1 := numS_le most hm.1 s
  have H1 := hide (fun (wx : World) (h : RdS wx g s) => num_S g s most wx h)
  have hL := fun n (s' : St) => listS_len relS n s'
  unfold takeS
  generalize (numS most s).2 = s1 at *
  obtain ⟨N, hN⟩ : ∃ N : Nat, (numS most s).1 = (N : Int) := ⟨(numS most s).1.toNat, by omega⟩
  rw [hN] at h1 H1 ⊢
  have hN2 : N ≤ 100 := by omega
  rw [Int.toNat_natCast]
  clear hN h1
  go_enter Tryz.func136, Tryz.ntmps136
  go_wp2_with (first
    | (go_at_call 130
       refine (H1.out _ hr).mono ?_
       rintro e w1 ⟨rfl, hr1, hg1⟩))
  go_loopw [7, 11] (fun v u wx => ∃ (i : Nat) (rs : List Vr), i ≤ N ∧ u = .int .i64 (i : Int) ∧ wx.ownsRow w.heap.size 136 2 v i (vcs rs) ∧ AllN wx rs (listS relS i s1).1 ∧ RdS wx g (listS relS i s1).2 ∧ w.grownBy wx (some g)) (fun _ u => fun _ => N - (RowKit.intOf u).toNat)
  case atStart => exact ⟨0, [], by omega, rfl, World.ownsRow_nil _ _ _ _, ⟨rfl, fun i r q hr _ => by simp at hr⟩, hr1, hg1⟩
  case round =>
    obtain ⟨i, rs, hi, rfl, hown, hall, hri, hg⟩ := hrel
    clear hr1 hg1
    have hsz := hg.size
    by_cases hlt : i < N
    · have hbi := blk_far hb hne hg
      have hb1i := blk_far hb1 hne1 hg
      have hb2i := blk_far hb2 hne2 hg
      have HF := hide (takeRelease_any g b0 b1 b2 (listS relS i s1).2 wr hri hbi hne hb1i hne1 hb2i hne2)
      have Hst := hide (show listS relS (i + 1) s1 = ((listS relS i s1).1 ++ [(relS (listS relS i s1).2).1], (relS (listS relS i s1).2).2) from rfl)
      have hlL := hL i s1
      have hf3 : FarT wr 136 (some g) := hri.far (by decide)
      have hf4 : FarT wr 67 (some g) := hri.far (by decide)
      have hf5 : FarT wr 60 (some g) := hri.far (by decide)
      have hlt' := hlt
      generalize (listS relS i s1).1 = l at *
      generalize hss : (listS relS i s1).2 = ss at *
      generalize (relS ss).2 = st at *
      generalize (relS ss).1 = z at *
      obtain ⟨za, zb⟩ := z
      simp only at HF
      clear hss hri hb hL
      go_wp2_with (first
        | (go_at_call 134
           refine HF.out.mono ?_
           rintro e w2 ⟨A2, n2, c2, rfl, hI2, hr2, hg2⟩
           have hgw2 := only_both hg hg2
           have hown2 := own_far hown hf3 hg2
           have hall2 : AllN w2 rs l := hall.mono fun _ _ _ hs => hs.far hf4 hf5 hg2
           have hsz2 := hgw2.size)
        | (at_builtin
           refine wpList_append_any _ rfl (.tmp 13) (.tmp 16) _ rfl w.heap.size 136 i0 _ 2 32 Tryz.underlying98 hi0 hz0 hz1 hz2 rfl (by omega) _ i (vcs rs) rfl
             (hown2.alloc _) _ _ 1 _ _ rfl (reads_rel w2 za A2 n2 c2 _ _ rfl) (one_rel _ _ _ _) (by simp only [maxLen]; omega) (by omega) (by simp; omega) ?_
           intro v3 w3 hown3 hg3 hat3
           have hgA := (alloc_only w2 (.cells #[.int .i64 za, .slice A2 n2 c2] 136) (some g))
           have hgw3 := only_own (only_both hgw2 hgA) (hown2.alloc _) hg3
           have hr3 : RdS w3 g st := (hr2.alloc _).grown hg3 (fun k hk => by have := ((hown2.alloc (.cells #[.int .i64 za, .slice A2 n2 c2] 136)).lt k hk).1; omega)
           have hall3 : AllN w3 (rs ++ [(za, .slice A2 n2 c2)]) (l ++ [(za, zb)]) := ((hall2.mono fun _ _ _ hs => hs.below (alloc_b _)).append (AllN.one (hI2.below (alloc_b _)))).mono fun _ _ _ hs => hs.far (farT_own (hown2.alloc _) (by decide)) (farT_own (hown2.alloc _) (by decide)) hg3
           rw [← vcs_append] at hown3))
      go_roundw
      case rel => exact ⟨i + 1, rs ++ [(za, .slice A2 n2 c2)], by omega, by go_num, by first | exact hown3 | (rw [Hst.out]; exact hown3), by rw [Hst.out]; exact hall3, by rw [Hst.out]; exact hr3, hgw3⟩
      case measure => simp [RowKit.intOf]; omega
    · have hi2 : i = N := by omega
      subst hi2
      obtain ⟨A9, c9, rfl, hc9, _⟩ := own_form hown
      go_wp2
      go_ret
      exact ⟨_, _, _, rfl, ⟨rs, hown, hall⟩, hri, hg⟩
end Go.Proofs.YtdmejcfnolhplaaGreat.Wire
/-
  The program's reading of a manifest: what the plain mathematics tells, and what is left. No condition.
-/
namespace Go.Proofs.YtdmejcfnolhplaaGreat.Wire
open Go Go.RowKit Go.Lib Go.Proofs.YtdmejcfnolhplaaGreat.Span Go.Proofs.YtdmejcfnolhplaaGreat.Need Go.Proofs.YtdmejcfnolhplaaGreat.Mani Go.Proofs.YtdmejcfnolhplaaGreat.Grow
set_option linter.unusedVariables false
set_option maxHeartbeats 4000000 in
set_option maxRecDepth 100000 in
theorem takeMan_any (g : Nat) (s : St) (w : World) (hr : RdS w g s) :
    Calls Tryz.prog 96 #[.pointer (some ⟨g, 0, none⟩)] w fun e w' => ∃ A n c,
      e = .returned (.agg #[.string (manS s).1.1, .slice A n c]) ∧ (∃ B rs, Rls w' B (.slice A n c) n rs (manS s).1.2) ∧ RdS w' g (manS s).2 ∧ w.grownBy w' (some g) := by
  have hglt := hr.lt
  have H1 := hide (fun (wx : World) (h : RdS wx g s) => str_S g s 24 wx h)
  have H2 := hide (fun (wx : World) b0 b1 b2 hx1 hx2 hx3 hx4 hx5 hx6 hx7 => takeListR_any g b0 b1 b2 (strS 24 s).2 8 wx (by omega) hx1 hx2 hx3 hx4 hx5 hx6 hx7)
  unfold manS
  simp only
  generalize hn1 : (strS 24 s).2 = s1 at *
  generalize hn2 : (strS 24 s).1 = n1 at *
  generalize hn3 : (takeS 8 relS s1).2 = s2 at *
  generalize hn4 : (takeS 8 relS s1).1 = l2 at *
  clear hn1 hn2 hn3 hn4
  go_enter Tryz.func96, Tryz.ntmps96
  go_upto_region 4 with fail
  obtain ⟨W0, hW0⟩ : ∃ W, W = w.alloc (.cells #[.pointer (some ⟨g, 0, none⟩)] 151) := ⟨_, rfl⟩
  have b00 : Blk W0 w.heap.size 151 #[.pointer (some ⟨g, 0, none⟩)] := by rw [hW0]; exact Blk.new _ _ _
  have z0 : W0.heap.size = w.heap.size + 1 := by rw [hW0]; simp
  have g0 : w.grownBy W0 (some g) := by rw [hW0]; exact alloc_only _ _ _
  have r0 : RdS W0 g s := by rw [hW0]; exact hr.alloc _
  rw [← hW0]
  obtain ⟨W1, hW1⟩ : ∃ W, W = W0.alloc (.cells #[.string ⟨#[]⟩, .slice none 0 0] 100) := ⟨_, rfl⟩
  have b11 : Blk W1 (w.heap.size + 1) 100 #[.string ⟨#[]⟩, .slice none 0 0] := by rw [hW1, ← z0]; exact Blk.new _ _ _
  have b10 : Blk W1 w.heap.size 151 #[.pointer (some ⟨g, 0, none⟩)] := by rw [hW1]; exact b00.alloc _
  have z1 : W1.heap.size = w.heap.size + 2 := by rw [hW1]; simp [z0]
  have g1 : w.grownBy W1 (some g) := by rw [hW1]; exact only_alloc g0 _
  have r1 : RdS W1 g s := by rw [hW1]; exact r0.alloc _
  rw [← hW1]
  obtain ⟨W2, hW2⟩ : ∃ W, W = W1.alloc (.cells #[.func (.func 129) #[] #[.pointer (some ⟨w.heap.size, 0, none⟩)]] 184) := ⟨_, rfl⟩
  have b22 : Blk W2 (w.heap.size + 2) 184 #[.func (.func 129) #[] #[.pointer (some ⟨w.heap.size, 0, none⟩)]] := by rw [hW2, ← z1]; exact Blk.new _ _ _
  have b21 : Blk W2 (w.heap.size + 1) 100 #[.string ⟨#[]⟩, .slice none 0 0] := by rw [hW2]; exact b11.alloc _
  have b20 : Blk W2 w.heap.size 151 #[.pointer (some ⟨g, 0, none⟩)] := by rw [hW2]; exact b10.alloc _
  have z2 : W2.heap.size = w.heap.size + 3 := by rw [hW2]; simp [z1]
  have g2 : w.grownBy W2 (some g) := by rw [hW2]; exact only_alloc g1 _
  have r2 : RdS W2 g s := by rw [hW2]; exact r1.alloc _
  rw [← hW2]
  obtain ⟨W, hW⟩ : ∃ W, W = W2.alloc (.cells #[.func (.func 131) #[] #[.pointer (some ⟨w.heap.size, 0, none⟩), .pointer (some ⟨w.heap.size + 2, 0, none⟩)]] 186) := ⟨_, rfl⟩
  have b33 : Blk W (w.heap.size + 3) 186 #[.func (.func 131) #[] #[.pointer (some ⟨w.heap.size, 0, none⟩), .pointer (some ⟨w.heap.size + 2, 0, none⟩)]] := by rw [hW, ← z2]; exact Blk.new _ _ _
  have b32 : Blk W (w.heap.size + 2) 184 #[.func (.func 129) #[] #[.pointer (some ⟨w.heap.size, 0, none⟩)]] := by rw [hW]; exact b22.alloc _
  have hB : Blk W (w.heap.size + 1) 100 #[.string ⟨#[]⟩, .slice none 0 0] := by rw [hW]; exact b21.alloc _
  have b30 : Blk W w.heap.size 151 #[.pointer (some ⟨g, 0, none⟩)] := by rw [hW]; exact b20.alloc _
  have hgW : w.grownBy W (some g) := by rw [hW]; exact only_alloc g2 _
  have hr' : RdS W g s := by rw [hW]; exact r2.alloc _
  rw [← hW]
  clear hW hW0 hW1 hW2 b00 b10 b11 b20 b21 b22 r0 r1 r2 g0 g1 g2 z0 z1 z2 hr
  have c0 := (b30.cell 0).trans (show (#[Value.pointer (some ⟨g, 0, none⟩)] : Array Value)[0]? = some (.pointer (some ⟨g, 0, none⟩)) from rfl)
  go_region_held3 (fun w' => w'.cell? ⟨w.heap.size, 0, none⟩ = some (.pointer (some ⟨g, 0, none⟩))) (first | exact cell_far2 e0 (by omega) | exact e0 | exact d0 | exact c0 | go_keep)
    (first
      | (go_at_call 136
         refine (H2.out _ _ (w.heap.size + 2) _ ?_ ?_ (by omega) ?_ (by omega) ?_ (by omega)).mono ?_
         · exact hr1
         · exact hb1
         · exact hm1
         · exact hl1
         rintro e w2 ⟨A2, n2, c2, rfl, ⟨rs2, hN2⟩, hr2, hg2⟩
         have hB2 := blk_far hB1 (by omega) hg2
         have hb2 := blk_far hb1 (by omega) hg2
         have e0 := (hb2.cell 0).trans (show (#[Value.pointer (some ⟨g, 0, none⟩)] : Array Value)[0]? = some (.pointer (some ⟨g, 0, none⟩)) from rfl)
         have f0 := hB2.frozen 0
         have f1 := hB2.frozen 1
         have k0 := (hB2.cell 0).trans (show (#[Value.string ⟨#[]⟩, .slice none 0 0] : Array Value)[0]? = some (.string ⟨#[]⟩) from rfl)
         have k1 := (hB2.cell 1).trans (show (#[Value.string ⟨#[]⟩, .slice none 0 0] : Array Value)[1]? = some (.slice none 0 0) from rfl))
      | (go_at_call 132
         refine (H1.out _ ?_).mono ?_
         · exact hr'
         rintro e w1 ⟨rfl, hr1, hg1⟩
         have hg1' : W.grownBy w1 (some g) := only_both (only_drew (only_self W g)) hg1
         have hB1 := blk_far hB (by omega) hg1'
         have hb1 := blk_far b30 (by omega) hg1'
         have hm1 := blk_far b32 (by omega) hg1'
         have hl1 := blk_far b33 (by omega) hg1'
         have d0 := (hb1.cell 0).trans (show (#[Value.pointer (some ⟨g, 0, none⟩)] : Array Value)[0]? = some (.pointer (some ⟨g, 0, none⟩)) from rfl)))
  have hblk := (hB2.set_ 0 (.string (str n1))).set_ 1 (.slice A2 n2 c2)
  have hgs : w2.grownBy ((w2.setCell ⟨w.heap.size + 1, 0, none⟩ (.string (str n1))).setCell ⟨w.heap.size + 1, 1, none⟩ (.slice A2 n2 c2)) (some (w.heap.size + 1)) := only_setCell (p := ⟨w.heap.size + 1, 1, none⟩) (only_setCell (p := ⟨w.heap.size + 1, 0, none⟩) (only_self w2 (w.heap.size + 1)) (.inl rfl) _) (.inl rfl) _
  have hN3 := hN2.far (farT_blk hB2 (by decide)) (farT_blk hB2 (by decide)) (farT_blk hB2 (by decide)) hgs
  go_wp2
  refine bodyPost_ret (results_cell_row rfl _ _ (w.heap.size + 1) 100 _ (0, 0) _ rfl hblk Tryz.underlying100 rfl rfl) rfl ?_
  have hR9 := hr2.grown hgs (fun k hk => by injection hk with hk; omega)
  have hG9 : w.grownBy _ (some g) := only_then (only_both (only_both hgW hg1') hg2) hgs fun j hj => .inl (by injection hj with hj; omega)
  first
    | exact ⟨_, n2, _, rfl, ⟨_, _, hN3⟩, hR9, hG9⟩
    | exact ⟨_, n2, ⟨_, rfl⟩, ⟨_, _, hN3⟩, hR9, hG9⟩
end Go.Proofs.YtdmejcfnolhplaaGreat.Wire
/-
  The contract of the program's Read: of any bytes what the plain mathematics tells. Condition: no more than 1,000,000 bytes.
-/
namespace Go.Proofs.YtdmejcfnolhplaaGreat.Wire
open Go Go.RowKit Go.Lib Go.Proofs.YtdmejcfnolhplaaGreat.Span Go.Proofs.YtdmejcfnolhplaaGreat.Need Go.Proofs.YtdmejcfnolhplaaGreat.Mani Go.Proofs.YtdmejcfnolhplaaGreat.Grow
open Go.Proofs.YtdmejcfnolhplaaGreat.Vlq (RdV open_any close_any closed closedM closed_of)
set_option linter.unusedVariables false
theorem mani_size : (Tryz.prog.info? 100).map (·.size) = some 2 := by kernel_rfl
theorem results_blk_tmp {P : Program} {fn : Func} {p u : Tmp} {ty : TypeId} (h : fn.results = #[.cell p ty, .tmp u]) (tmps : Array Value) (w : World) (g : Nat) (t : TypeId) (cs : Array Value) (fr : Nat × Nat) (d : TypeDesc) (v : Value)
    (hp : tmps.getD p undef = .pointer (some ⟨g, 0, none⟩)) (hv : tmps.getD u undef = v) (hg : w.heap[g]? = some (.cells cs t fr))
    (hu : P.underlying ty = some d) (hd : (match d with | .struct _ | .array _ _ => true | _ => false) = true) (hi : (P.info? ty).map (·.size) = some cs.size) :
    (results fn tmps).run P w = .ok (.tuple #[.agg cs, v]) w := by
  rw [results_cell_tmp h]
  simp only [hp, hv, asAddr, Sem.run_pure, Result.andThen_ok, run_loadVar_row w g t ty cs fr d hg hu hd hi]
theorem set_two_only (w : World) (b : Nat) (u v : Value) : w.grownBy ((w.setCell ⟨b, 0, none⟩ u).setCell ⟨b, 1, none⟩ v) (some b) := only_setCell (p := ⟨b, 1, none⟩) (only_setCell (p := ⟨b, 0, none⟩) (only_self w b) (.inl rfl) _) (.inl rfl) _
theorem set_two_below {w0 w : World} {B : Nat} (h : Below B w0 w) (b : Nat) (hb : B ≤ b) (u v : Value) : Below B w0 ((w.setCell ⟨b, 0, none⟩ u).setCell ⟨b, 1, none⟩ v) := (h.setCell hb _).setCell hb _
theorem Rls.drewN {w : World} {B n : Nat} {v : Value} {rs : List Vr} {l : List Rl} (h : Rls w B v n rs l) (k : Nat) : Rls (w.drewN k) B v n rs l := Rls.below h (quiet_b k)
theorem readB_err {b : List UInt8} (h : errB b ≠ 0) : readB b = (ByteArray.empty, []) := by unfold readB; rw [if_neg h]
def ReadsR (w : World) (b : List UInt8) (e : Ending) (w' : World) : Prop :=
  ∃ A n c B rs, e = .returned (.tuple #[.agg #[.string (readB b).1, .slice A n c], .int .i64 (errB b)]) ∧ Rls w' B (.slice A n c) n rs (readB b).2 ∧ Below w.heap.size w w'
theorem reads_none {w w' : World} {b : List UInt8} {e : Ending} (h : errB b ≠ 0) (he : e = .returned (.tuple #[.agg #[.string ByteArray.empty, .slice none 0 0], .int .i64 (errB b)])) (hb : Below w.heap.size w w') : ReadsR w b e w' := by
  refine ⟨none, 0, 0, 0, [], ?_, ?_, hb⟩
  · rw [readB_err h]; exact he
  · rw [readB_err h]; exact Rls.nil_ _ _
set_option maxHeartbeats 1600000 in
set_option maxRecDepth 100000 in
theorem readLong_any (A : Option Addr) (n c : Nat) (b : List UInt8) (w : World) (hb : b.length = n) (hn : 8192 < n) :
    Calls Tryz.prog 70 #[.slice A n c] w (ReadsR w b) := by
  have e : errB b = 4 := by unfold errB; rw [if_pos (by omega)]
  have E := hide e
  clear e
  have b0 := Blk.new w 100 #[.string ⟨#[]⟩, .slice none 0 0]
  have k0 := (b0.cell 0).trans (show (#[Value.string ⟨#[]⟩, .slice none 0 0] : Array Value)[0]? = some (.string ⟨#[]⟩) from rfl)
  go_enter Tryz.func70, Tryz.ntmps70
  go_wp2
  first
    | (refine bodyPost_ret (results_blk_tmp rfl _ _ w.heap.size 100 _ (0, 0) _ (.int .i64 4) rfl rfl b0 Tryz.underlying100 rfl mani_size) rfl ?_
       exact reads_none (by rw [E.out]; decide) (by rw [E.out]; rfl) (alloc_b _))
    | (have hblk := (b0.set_ 0 (.string ⟨#[]⟩)).set_ 1 (.slice none 0 0)
       refine bodyPost_ret (results_blk_tmp rfl _ _ w.heap.size 100 _ (0, 0) _ (.int .i64 4) rfl rfl hblk Tryz.underlying100 rfl mani_size) rfl ?_
       exact reads_none (by rw [E.out]; decide) (by rw [E.out]; rfl) (set_two_below (alloc_b _) _ (Nat.le_refl _) _ _))
set_option maxHeartbeats 4000000 in
set_option maxRecDepth 100000 in
theorem readShort_any (A : Option Addr) (n c : Nat) (b : List UInt8) (w : World) (hr : Reads w w.heap.size 1 A n (bcs b)) (hn : n ≤ 8192) :
    Calls Tryz.prog 70 #[.slice A n c] w (ReadsR w b) := by
  have hlen : b.length = n := by have := hr.1; rw [bcs_length] at this; omega
  have e1 : errB b = if closedM (manS (b, 0)).2.1 (manS (b, 0)).2.2 ≠ 0 then closedM (manS (b, 0)).2.1 (manS (b, 0)).2.2 else if okM (manS (b, 0)).1.1 (manS (b, 0)).1.2 = true then 0 else 3 := by unfold errB; rw [if_neg (by omega)]
  have e2 : errB b = 0 → readB b = (manS (b, 0)).1 := fun h => by unfold readB; rw [if_pos h]
  have hf := manS_fine (b, 0)
  have HO := hide (fun (wx : World) (hx : Below w.heap.size w wx) => open_S A n c b wx (by omega) ((hr.below hx).more hx.size))
  have HT := hide (fun (g : Nat) (wx : World) (hx : RdS wx g (b, 0)) => takeMan_any g (b, 0) wx hx)
  have HC := hide (fun (g : Nat) (wx : World) (hx : RdS wx g (manS (b, 0)).2) => close_S g (manS (b, 0)).2 wx hx)
  generalize hs : (manS (b, 0)).2 = s at *
  generalize closedM s.1 s.2 = e0 at *
  rcases hm : (manS (b, 0)).1 with ⟨nm, l⟩
  rw [hm] at e1 e2 hf
  simp only [hm] at HT
  simp only at e1 e2 hf
  clear hm hs hr hlen
  have HM := hide (fun A' n' c' (wx : World) (hx : RlOn wx A' n' l) => checkM_any nm l A' n' c' wx hx hf.2 (by omega))
  unfold Tells at HM
  have E1 := hide e1
  have E2 := hide e2
  clear e1 e2 hf
  have b0 := Blk.new w 100 #[.string ⟨#[]⟩, .slice none 0 0]
  go_enter Tryz.func70, Tryz.ntmps70
  go_upto_region 6 with (first
    | (go_at_call 95
       refine (HO.out _ (alloc_b _)).mono ?_
       rintro e w1 ⟨g, rfl, hg0, hr1, hb1⟩
       have hx1 := b0.below hb1 (by simp)
       have hbw1 : Below w.heap.size w w1 := (alloc_b _).trans (hb1.mono (by simp))
       rw [World.size_alloc] at hg0)
    | (go_at_call 96
       refine (HT.out g _ hr1).mono ?_
       rintro e w2 ⟨A2, n2, c2, rfl, ⟨B2, rs2, hN2⟩, hr2, hg2⟩
       have hx2 := blk_far hx1 (by omega) hg2
       have hbw2 : Below w.heap.size w w2 := hbw1.grown hg2 hbw1.size (fun k hk => by injection hk with hk; omega))
    | (go_at_call 97
       refine (HC.out g _ (hr2.alloc _)).mono ?_
       rintro e w3 ⟨rfl, nd, rfl⟩))
  obtain ⟨W, hW⟩ : ∃ W, W = (w2.alloc (.cells #[.string nm, .slice A2 n2 c2] 100)).drewN nd := ⟨_, rfl⟩
  have hmW : Blk W w2.heap.size 100 #[.string nm, .slice A2 n2 c2] := by rw [hW]; exact (Blk.new _ _ _).drewN nd
  have hxW : Blk W w.heap.size 100 #[.string ⟨#[]⟩, .slice none 0 0] := by rw [hW]; exact (hx2.alloc _).drewN nd
  have hNW : Rls W B2 (.slice A2 n2 c2) n2 rs2 l := by rw [hW]; exact Rls.drewN (hN2.below (alloc_b _)) nd
  have hbW : Below w.heap.size w W := by rw [hW]; exact below_drewN (hbw2.alloc hbw2.size _) nd
  have hsW : w.heap.size < w2.heap.size := hx2.lt
  rw [← hW]
  clear hW hN2 hr2 hg2 hx2 hbw2 hx1 hbw1 hr1 hb1 b0
  have m0 := (hmW.cell 0).trans (show (#[Value.string nm, .slice A2 n2 c2] : Array Value)[0]? = some (.string nm) from rfl)
  have m1 := (hmW.cell 1).trans (show (#[Value.string nm, .slice A2 n2 c2] : Array Value)[1]? = some (.slice A2 n2 c2) from rfl)
  by_cases he : e0 = 0
  · subst he
    obtain ⟨A3, c3, e3, _, hRl⟩ := hNW.told
    injection e3 with e4 e5 e6
    subst e4 e6
    have HM2 := hide (HM.out A2 n2 c2 W hRl)
    cases hok : okM nm l
    · rw [hok] at HM2
      have E : Hid (errB b = 3) := hide (by rw [E1.out, hok]; rfl)
      clear HM E1 E2 hok
      go_wp2_with (first
        | (go_at_call 98
           refine HM2.out.mono ?_
           rintro e w6 ⟨rfl, hb6⟩
           have hx6 := hxW.below hb6 hxW.lt
           have f0 := hx6.frozen 0
           have f1 := hx6.frozen 1
           have k0 := (hx6.cell 0).trans (show (#[Value.string ⟨#[]⟩, .slice none 0 0] : Array Value)[0]? = some (.string ⟨#[]⟩) from rfl)
           have k1 := (hx6.cell 1).trans (show (#[Value.string ⟨#[]⟩, .slice none 0 0] : Array Value)[1]? = some (.slice none 0 0) from rfl)
           have hbb := hbW.trans (hb6.mono hbW.size)))
      have hblk := (hx6.set_ 0 (.string ByteArray.empty)).set_ 1 (.slice none 0 0)
      refine bodyPost_ret (results_blk_tmp rfl _ _ w.heap.size 100 _ (0, 0) _ (.int .i64 3) rfl rfl hblk Tryz.underlying100 rfl mani_size) rfl ?_
      exact reads_none (by rw [E.out]; decide) (by rw [E.out]; rfl) (set_two_below hbb _ (Nat.le_refl _) _ _)
    · rw [hok] at HM2
      have E : Hid (errB b = 0) := hide (by rw [E1.out, hok]; rfl)
      have hrb := E2.out E.out
      have HR := hide hrb
      clear HM E1 E2 hok hrb
      go_wp2_with (first
        | (go_at_call 98
           refine HM2.out.mono ?_
           rintro e w6 ⟨rfl, hb6⟩
           have hx6 := hxW.below hb6 hxW.lt
           have hm6 := hmW.below hb6 hmW.lt
           have hN6 := hNW.below hb6
           have f0 := hx6.frozen 0
           have f1 := hx6.frozen 1
           have k0 := (hx6.cell 0).trans (show (#[Value.string ⟨#[]⟩, .slice none 0 0] : Array Value)[0]? = some (.string ⟨#[]⟩) from rfl)
           have k1 := (hx6.cell 1).trans (show (#[Value.string ⟨#[]⟩, .slice none 0 0] : Array Value)[1]? = some (.slice none 0 0) from rfl)
           have l0 := (hm6.cell 0).trans (show (#[Value.string nm, .slice A2 n2 c2] : Array Value)[0]? = some (.string nm) from rfl)
           have l1 := (hm6.cell 1).trans (show (#[Value.string nm, .slice A2 n2 c2] : Array Value)[1]? = some (.slice A2 n2 c2) from rfl)
           have hbb := hbW.trans (hb6.mono hbW.size)))
      have hblk := (hx6.set_ 0 (.string nm)).set_ 1 (.slice A2 n2 c2)
      have hN9 := hN6.far (farT_blk hx6 (by decide)) (farT_blk hx6 (by decide)) (farT_blk hx6 (by decide)) (set_two_only w6 w.heap.size (.string nm) (.slice A2 n2 c2))
      refine bodyPost_ret (results_blk_tmp rfl _ _ w.heap.size 100 _ (0, 0) _ (.int .i64 0) rfl rfl hblk Tryz.underlying100 rfl mani_size) rfl ?_
      have hlr : (readB b).2 = _ := congrArg Prod.snd HR.out
      simp only at hlr
      rw [← hlr] at hN9
      exact ⟨A2, n2, c2, _, _, by rw [HR.out, E.out]; rfl, hN9, set_two_below hbb _ (Nat.le_refl _) _ _⟩
  · have E : Hid (errB b = e0) := hide (by rw [E1.out, if_pos he])
    have hb1 : (e0 == 0) = false := beq_eq_false_iff_ne.2 he
    have hb2 : (e0 != 0) = true := bne_iff_ne.2 he
    have Hne := hide he
    have f0 := hxW.frozen 0
    have f1 := hxW.frozen 1
    have k0 := (hxW.cell 0).trans (show (#[Value.string ⟨#[]⟩, .slice none 0 0] : Array Value)[0]? = some (.string ⟨#[]⟩) from rfl)
    have k1 := (hxW.cell 1).trans (show (#[Value.string ⟨#[]⟩, .slice none 0 0] : Array Value)[1]? = some (.slice none 0 0) from rfl)
    clear HM E1 E2
    go_wp2
    have hblk := (hxW.set_ 0 (.string ByteArray.empty)).set_ 1 (.slice none 0 0)
    refine bodyPost_ret (results_blk_tmp rfl _ _ w.heap.size 100 _ (0, 0) _ (.int .i64 e0) rfl rfl hblk Tryz.underlying100 rfl mani_size) rfl ?_
    exact reads_none (by rw [E.out]; exact Hne.out) (by rw [E.out]; rfl) (set_two_below hbW _ (Nat.le_refl _) _ _)
theorem readR_any (A : Option Addr) (n c : Nat) (b : List UInt8) (w : World) (hr : Reads w w.heap.size 1 A n (bcs b)) : Calls Tryz.prog 70 #[.slice A n c] w (ReadsR w b) := by
  have hlen : b.length = n := by have := hr.1; rw [bcs_length] at this; omega
  rcases Nat.lt_or_ge 8192 n with h | h
  · exact readLong_any A n c b w hlen h
  · exact readShort_any A n c b w hr h
end Go.Proofs.YtdmejcfnolhplaaGreat.Wire
/-
  The contract of the document's readNeeds: what the plain mathematics tells, and what is left. No condition.
-/
namespace Go.Proofs.YtdmejcfnolhplaaGreat.Wire
open Go Go.RowKit Go.Lib Go.Proofs.YtdmejcfnolhplaaGreat.Span Go.Proofs.YtdmejcfnolhplaaGreat.Need Go.Proofs.YtdmejcfnolhplaaGreat.Mani Go.Proofs.YtdmejcfnolhplaaGreat.Grow
set_option linter.unusedVariables false
theorem RdD.far {w : World} {g : Nat} {s : St} (h : RdD w g s) {T : TypeId} (hne : T ≠ 158) : FarT w T (some g) := farT_blk h.1 hne
theorem own_ne {w w' : World} {B size n : Nat} {T : TypeId} {v : Value} {xs : List Value} {row : Option Nat} (h : w.ownsRow B T size v n xs) (hg : w.grownBy w' row) (hne : ∀ b, v.ownBlock = some b → some b ≠ row) : w'.ownsRow B T size v n xs := by
  refine ⟨h.1, ?_⟩
  rcases h.2 with hn | ⟨g, cap, cur, hv, hB, hh, r⟩
  · exact .inl hn
  · exact .inr ⟨g, cap, cur, hv, hB, (hg.block g (Array.getElem?_eq_some_iff.1 hh).1 (hne g (by rw [hv]; rfl))).trans hh, r⟩
theorem set_only (w : World) (b i : Nat) (u : Value) : w.grownBy (w.setCell ⟨b, i, none⟩ u) (some b) := only_setCell (p := ⟨b, i, none⟩) (only_self w b) (.inl rfl) _
set_option maxHeartbeats 4000000 in
set_option maxRecDepth 100000 in
theorem refReadNeeds_any (g : Nat) (s : St) (w : World) (hr : RdD w g s) :
    Calls Tryz.prog 101 #[.pointer (some ⟨g, 0, none⟩)] w fun e w' =>
      ∃ A n c, e = .returned (.slice A n c) ∧ InN w' A n (takeS 6 needS s).1 ∧ RdD w' g (takeS 6 needS s).2 ∧ w.grownBy w' (some g) := by
  obtain ⟨i0, hi0, hz0, hz1, hz2⟩ := info_parts info_need
  obtain ⟨i1, hi1, hy0, hy1, hy2⟩ := info_parts info_span
  have hglt := hr.lt
  have h1 := numS_le 6 (by omega) s
  have H1 := hide (fun (wx : World) (h : RdD wx g s) => num_D g s 6 wx h)
  have HS := hide (fun (ss : St) (wx : World) (h : RdD wx g ss) => str_D g ss 24 wx h)
  have HN := hide (fun (m : Int) (ss : St) (wx : World) (h : RdD wx g ss) => num_D g ss m wx h)
  unfold takeS
  generalize (numS 6 s).2 = s1 at *
  obtain ⟨N, hN⟩ : ∃ N : Nat, (numS 6 s).1 = (N : Int) := ⟨(numS 6 s).1.toNat, by omega⟩
  rw [hN] at h1 H1 ⊢
  have hN2 : N ≤ 6 := by omega
  rw [Int.toNat_natCast]
  clear hN h1
  go_enter Tryz.func101, Tryz.ntmps101
  go_wp2_with (first
    | (go_at_call 100
       refine (H1.out _ hr).mono ?_
       rintro e w1 ⟨rfl, hr1, hg1⟩))
  go_loopw [3, 5] (fun v u wx => ∃ (i : Nat) (rs : List Rw), i ≤ N ∧ u = .int .i64 (i : Int) ∧ wx.ownsRow w.heap.size 60 2 v i (rcs rs) ∧ AllIn wx 0 rs (listS needS i s1).1 ∧ RdD wx g (listS needS i s1).2 ∧ w.grownBy wx (some g)) (fun _ u => fun _ => N - (RowKit.intOf u).toNat)
  case atStart => exact ⟨0, [], by omega, rfl, World.ownsRow_nil _ _ _ _, ⟨rfl, fun i r q hr _ => by simp at hr⟩, hr1, hg1⟩
  case round =>
    obtain ⟨i, rs, hi, rfl, hown, hall, hri, hg⟩ := hrel
    clear hr1 hg1 H1
    have hsz := hg.size
    by_cases hlt : i < N
    · have Hst : Hid (listS needS (i + 1) s1 = ((listS needS i s1).1 ++ [(needS (listS needS i s1).2).1], (needS (listS needS i s1).2).2)) := hide rfl
      have hf3 : FarT wr 60 (some g) := hri.far (by decide)
      have hf4 : FarT wr 67 (some g) := hri.far (by decide)
      generalize (listS needS i s1).1 = l at *
      generalize (listS needS i s1).2 = ss at *
      have HS1 := hide (HS.out ss wr hri)
      have HK := hide (HN.out 6 (strS 24 ss).2)
      have hk0 := numS_le 6 (by omega) (strS 24 ss).2
      have e1 : (needS ss).1 = (str (strS 24 ss).1, (listS spanS (numS 6 (strS 24 ss).2).1.toNat (numS 6 (strS 24 ss).2).2).1) := rfl
      have e2 : (needS ss).2 = (listS spanS (numS 6 (strS 24 ss).2).1.toNat (numS 6 (strS 24 ss).2).2).2 := rfl
      rw [e1, e2] at Hst
      clear e1 e2
      obtain ⟨K, hK⟩ : ∃ K : Nat, (numS 6 (strS 24 ss).2).1 = (K : Int) := ⟨(numS 6 (strS 24 ss).2).1.toNat, by omega⟩
      rw [hK] at hk0 HK Hst
      rw [Int.toNat_natCast] at Hst
      have hK2 : K ≤ 6 := by omega
      clear hK hk0
      generalize (numS 6 (strS 24 ss).2).2 = t2 at *
      generalize (strS 24 ss).2 = t1 at *
      generalize str (strS 24 ss).1 = nm at *
      go_wp2_with (first
        | (go_at_call 99
           refine HS1.out.mono ?_
           rintro e w2 ⟨rfl, hr2, hg2⟩
           have hgw2 := only_both hg hg2
           have hown2 := own_far hown hf3 hg2
           have hall2 : AllIn w2 0 rs l := hall.mono fun _ _ _ hs => insFar hs hf4 hg2
           have hsz2 := hgw2.size)
        | (go_at_call 100
           have g7 := hr2
           obtain ⟨W, hW⟩ : ∃ W, W = w2.alloc (.cells #[.string nm, .slice none 0 0] 60) := ⟨_, rfl⟩
           have hBx : Blk W w2.heap.size 60 #[.string nm, .slice none 0 0] := by rw [hW]; exact Blk.new _ _ _
           have hrW : RdD W g t1 := by rw [hW]; exact hr2.alloc _
           have hgW : w2.grownBy W (some g) := by rw [hW]; exact alloc_only _ _ _
           try rw [← hW]
           refine (HK.out W hrW).mono ?_
           rintro e w3 ⟨rfl, hr3, hg3⟩
           have hgw3 := only_both hgW hg3
           have hB3 := blk_far hBx (by omega) hg3))
      have hf5 : FarT w2 60 (some g) := hr2.far (by decide)
      have hf6 : FarT w2 67 (some g) := hr2.far (by decide)
      clear hall hri hg hW hBx hrW hgW hg2 hg3 g7 hown hf3 hf4 HS1 HK
      go_loopw [8] (fun u wx => ∃ (j : Nat) (v2 : Value), j ≤ K ∧ u = .int .i64 (j : Int) ∧ Blk wx w2.heap.size 60 #[.string nm, v2] ∧ wx.ownsRow w2.heap.size 67 2 v2 j (scs (listS spanS j t2).1) ∧ RdD wx g (listS spanS j t2).2 ∧ w2.grownBy wx (some g)) (fun u => fun _ => K - (RowKit.intOf u).toNat)
      case atStart => exact ⟨0, _, by omega, rfl, hB3, World.ownsRow_nil _ _ _ _, hr3, hgw3⟩
      case round =>
        obtain ⟨j, v2, hj, rfl, hBj, hob, hrj, hgj⟩ := hrel
        clear hB3 hr3 hgw3
        have hszj := hgj.size
        by_cases hjl : j < K
        · have Hs2 : Hid (listS spanS (j + 1) t2 = ((listS spanS j t2).1 ++ [(spanS (listS spanS j t2).2).1], (spanS (listS spanS j t2).2).2)) := hide rfl
          have hjlen := listS_len spanS j t2
          generalize (listS spanS j t2).1 = lj at *
          generalize (listS spanS j t2).2 = sj at *
          have a1 := numS_le 1000000000 (by omega) sj
          have a2 := numS_le 1000000000 (by omega) (numS 1000000000 sj).2
          have HA := hide (HN.out 1000000000 sj)
          have HB := hide (HN.out 1000000000 (numS 1000000000 sj).2)
          have e1 : (spanS sj).1 = ((numS 1000000000 sj).1, (numS 1000000000 sj).1 + (numS 1000000000 (numS 1000000000 sj).2).1) := rfl
          have e2 : (spanS sj).2 = (numS 1000000000 (numS 1000000000 sj).2).2 := rfl
          rw [e1, e2] at Hs2
          clear e1 e2
          generalize hq1 : (numS 1000000000 sj).2 = q1 at *
          generalize hq2 : (numS 1000000000 sj).1 = x1 at *
          generalize hq3 : (numS 1000000000 q1).2 = q2 at *
          generalize hq4 : (numS 1000000000 q1).1 = x2 at *
          clear hq1 hq2 hq3 hq4
          obtain ⟨a3, a4⟩ := a1
          obtain ⟨a5, a6⟩ := a2
          have hf7 : FarT wr 67 (some g) := hrj.far (by decide)
          go_wp2_with (first
            | (go_at_call 100
               have g7 := hr4
               refine (HB.out _ hr4).mono ?_
               rintro e w5 ⟨rfl, hr5, hg5⟩
               have hB5 := blk_far hB4 (by omega) hg5
               have hgw5 := only_both hgw4 hg5
               have hob5 := own_far hob4 hf8 hg5
               have hsz5 := hgw5.size
               have c1 := (hB5.cell 1).trans (show (#[Value.string nm, v2] : Array Value)[1]? = some v2 from rfl))
            | (go_at_call 100
               refine (HA.out _ hrj).mono ?_
               rintro e w4 ⟨rfl, hr4, hg4⟩
               have hB4 := blk_far hBj (by omega) hg4
               have hgw4 := only_both hgj hg4
               have hob4 := own_far hob hf7 hg4
               have hf8 : FarT w4 67 (some g) := hr4.far (by decide))
            | (at_builtin
               refine wpList_append_any _ rfl (.tmp 33) (.tmp 39) _ rfl w2.heap.size 67 i1 _ 2 16 Tryz.underlying58 hi1 hy0 hy1 hy2 rfl (by omega) _ j (scs lj) rfl
                 (hob5.alloc _) _ _ 1 _ _ rfl (reads_span w5 x1 (x1 + x2) _ _ rfl) (scs_one _) (by simp only [maxLen]; omega) (by omega) (by simp; omega) ?_
               intro v6 w6 hown6 hg6 hat6
               have hBA : Blk (w5.alloc (.cells #[.int .i64 x1, .int .i64 (x1 + x2)] 67)) w2.heap.size 60 #[.string nm, v2] := hB5.alloc _
               have hB6 := hBA.grown hg6 (farT_own (hob5.alloc (.cells #[.int .i64 x1, .int .i64 (x1 + x2)] 67)) (T := 60) (by decide) _ _ _ hBA)
               have hr6 : RdD w6 g q2 := (hr5.alloc _).grown hg6 (fun e => by have := ((hob5.alloc (.cells #[.int .i64 x1, .int .i64 (x1 + x2)] 67)).lt g e.symm).1; omega)
               have hgw6 := only_then (only_alloc hgw5 (.cells #[.int .i64 x1, .int .i64 (x1 + x2)] 67)) hg6 fun k hk => .inl ((hob5.alloc (.cells #[.int .i64 x1, .int .i64 (x1 + x2)] 67)).lt k hk).1
               rw [← scs_append] at hown6
               obtain ⟨A6, c6, rfl, _⟩ := newS_of_own hown6
               have k1 := (hB6.cell 1).trans (show (#[Value.string nm, v2] : Array Value)[1]? = some v2 from rfl)
               have f1 := hB6.frozen 1))
          have hst6 := set_only w6 w2.heap.size 1 (.slice A6 (j + 1) c6)
          go_roundw
          case rel => exact ⟨j + 1, .slice A6 (j + 1) c6, by omega, by go_num, hB6.set_ 1 _, by rw [Hs2.out]; exact own_far hown6 (farT_blk hB6 (by decide)) hst6, by rw [Hs2.out]; exact hr6.grown hst6 (fun e => by injection e with e; omega), only_then hgw6 hst6 fun k hk => .inl (by injection hk with hk; omega)⟩
          case measure => simp [RowKit.intOf]; omega
        · have hj3 : j = K := by omega
          subst hj3
          obtain ⟨A2, c2, rfl, hN2'⟩ := newS_of_own hob
          have hownE := own_far hown2 hf5 hgj
          have hallE : AllIn wr 0 rs l := hall2.mono fun _ _ _ hs => insFar hs hf6 hgj
          have hgE := only_both hgw2 hgj
          have hszE := hgE.size
          have d0 := (hBj.cell 0).trans (show (#[Value.string nm, .slice A2 j c2] : Array Value)[0]? = some (.string nm) from rfl)
          have d1 := (hBj.cell 1).trans (show (#[Value.string nm, .slice A2 j c2] : Array Value)[1]? = some (.slice A2 j c2) from rfl)
          generalize (listS spanS j t2).1 = L2 at *
          generalize (listS spanS j t2).2 = q2 at *
          go_wp2_with (first
            | (at_builtin
               refine wpList_append_any _ rfl (.tmp 42) (.tmp 44) _ rfl w.heap.size 60 i0 _ 2 40 Tryz.underlying23 hi0 hz0 hz1 hz2 rfl (by omega) _ i (rcs rs) rfl
                 (hownE.alloc _) _ _ 1 _ _ rfl (reads_need wr nm A2 j c2 _ _ rfl) (one_need _ _ _ _) (by simp only [maxLen]; omega) (by omega) (by simp; omega) ?_
               intro v9 w9 hown9 hg9 hat9
               have hlo := fun k hk => ((hownE.alloc (.cells #[.string nm, .slice A2 j c2] 60)).lt k hk).1
               have hr9 : RdD w9 g q2 := (hrj.alloc _).grown hg9 (fun e => by have := hlo g e.symm; omega)
               have hgw9 := only_then (only_alloc hgE (.cells #[.string nm, .slice A2 j c2] 60)) hg9 fun k hk => .inl (hlo k hk)
               have hall9 : AllIn w9 0 (rs ++ [(nm, .slice A2 j c2)]) (l ++ [(nm, L2)]) := ((hallE.mono fun _ _ _ hs => hs.below (alloc_b _)).append (AllIn.one ((InS.of_new hN2').below (alloc_b _)))).mono fun _ _ _ hs => hs.grown (own_less (hownE.alloc _) (Nat.zero_le _)) hg9
               rw [← rcs_append] at hown9))
          go_roundw
          case rel => exact ⟨i + 1, rs ++ [(nm, .slice A2 j c2)], by omega, by go_num, hown9, by rw [Hst.out]; exact hall9, by rw [Hst.out]; exact hr9, hgw9⟩
          case measure => simp [RowKit.intOf]; omega
    · have hi2 : i = N := by omega
      subst hi2
      obtain ⟨A9, c9, rfl, hc9, hN9⟩ := inN_of hown hall
      go_wp2
      go_ret
      exact ⟨_, _, _, rfl, hN9, hri, hg⟩
end Go.Proofs.YtdmejcfnolhplaaGreat.Wire
/-
  The contract of the document's Read: of any bytes what the plain mathematics tells. Condition: no more than 1,000,000 bytes.
-/
namespace Go.Proofs.YtdmejcfnolhplaaGreat.Wire
open Go Go.RowKit Go.Lib Go.Proofs.YtdmejcfnolhplaaGreat.Span Go.Proofs.YtdmejcfnolhplaaGreat.Need Go.Proofs.YtdmejcfnolhplaaGreat.Mani Go.Proofs.YtdmejcfnolhplaaGreat.Grow
open Go.Proofs.YtdmejcfnolhplaaGreat.Vlq (refClose_any closedM)
set_option linter.unusedVariables false
set_option maxHeartbeats 1600000 in
set_option maxRecDepth 100000 in
theorem refReadLong_any (b : List UInt8) (w : World) (hn : 8192 < b.length) :
    Calls Tryz.prog 72 #[.string (str b)] w (ReadsR w b) := by
  have e : errB b = 4 := by unfold errB; rw [if_pos (by omega)]
  have E := hide e
  have hz : 8192 < (str b).size := by rw [str_size]; exact hn
  clear e hn
  have b0 := Blk.new w 100 #[.string ⟨#[]⟩, .slice none 0 0]
  have k0 := (b0.cell 0).trans (show (#[Value.string ⟨#[]⟩, .slice none 0 0] : Array Value)[0]? = some (.string ⟨#[]⟩) from rfl)
  go_enter Tryz.func72, Tryz.ntmps72
  go_wp2
  first
    | (refine bodyPost_ret (results_blk_tmp rfl _ _ w.heap.size 100 _ (0, 0) _ (.int .i64 4) rfl rfl b0 Tryz.underlying100 rfl mani_size) rfl ?_
       exact reads_none (by rw [E.out]; decide) (by rw [E.out]; rfl) (alloc_b _))
    | (have hblk := (b0.set_ 0 (.string ⟨#[]⟩)).set_ 1 (.slice none 0 0)
       refine bodyPost_ret (results_blk_tmp rfl _ _ w.heap.size 100 _ (0, 0) _ (.int .i64 4) rfl rfl hblk Tryz.underlying100 rfl mani_size) rfl ?_
       exact reads_none (by rw [E.out]; decide) (by rw [E.out]; rfl) (set_two_below (alloc_b _) _ (Nat.le_refl _) _ _))
set_option maxHeartbeats 4000000 in
set_option maxRecDepth 100000 in
theorem refReadShort_any (b : List UInt8) (w : World) (hn : b.length ≤ 8192) :
    Calls Tryz.prog 72 #[.string (str b)] w (ReadsR w b) := by
  obtain ⟨i0, hi0, hz0, hz1, hz2⟩ := info_parts info_rel
  have e1 : errB b = if closedM (manS (b, 0)).2.1 (manS (b, 0)).2.2 ≠ 0 then closedM (manS (b, 0)).2.1 (manS (b, 0)).2.2 else if okM (manS (b, 0)).1.1 (manS (b, 0)).1.2 = true then 0 else 3 := by unfold errB; rw [if_neg (by omega)]
  have e2 : errB b = 0 → readB b = (manS (b, 0)).1 := fun h => by unfold readB; rw [if_pos h]
  have hf := manS_fine (b, 0)
  have hz : (str b).size ≤ 8192 := by rw [str_size]; exact hn
  have HS := hide (fun (g : Nat) (wx : World) (hx : RdD wx g (b, 0)) => str_D g (b, 0) 24 wx hx)
  have HN := hide (fun (g : Nat) (m : Int) (ss : St) (wx : World) (hx : RdD wx g ss) => num_D g ss m wx hx)
  have HNn := hide (fun (g : Nat) (wx : World) (hx : RdD wx g (strS 24 (b, 0)).2) => num_D g (strS 24 (b, 0)).2 8 wx hx)
  have HL := hide (fun (g : Nat) (ss : St) (wx : World) (hx : RdD wx g ss) => refReadNeeds_any g ss wx hx)
  have HC := hide (fun (g : Nat) (ss : St) (wx : World) (hx : RdD wx g ss) => close_D g ss wx hx)
  have h1 := numS_le 8 (by omega) (strS 24 (b, 0)).2
  have em : manS (b, 0) = ((str (strS 24 (b, 0)).1, (listS relS (numS 8 (strS 24 (b, 0)).2).1.toNat (numS 8 (strS 24 (b, 0)).2).2).1), (listS relS (numS 8 (strS 24 (b, 0)).2).1.toNat (numS 8 (strS 24 (b, 0)).2).2).2) := rfl
  rw [em] at e1 e2 hf
  clear em
  obtain ⟨N, hN⟩ : ∃ N : Nat, (numS 8 (strS 24 (b, 0)).2).1 = (N : Int) := ⟨(numS 8 (strS 24 (b, 0)).2).1.toNat, by omega⟩
  rw [hN] at e1 e2 hf h1
  simp only [hN] at HNn
  have hN2 : N ≤ 8 := by omega
  rw [Int.toNat_natCast] at e1 e2 hf
  clear hN h1
  generalize (numS 8 (strS 24 (b, 0)).2).2 = s1 at *
  generalize (strS 24 (b, 0)).2 = s0 at *
  generalize hnm : str (strS 24 (b, 0)).1 = nm at *
  have hf1 : nm.size ≤ 24 := hf.1
  have hf2 : FineR (listS relS N s1).1 := hf.2
  have e3 : errB b = if closedM (listS relS N s1).2.1 (listS relS N s1).2.2 ≠ 0 then closedM (listS relS N s1).2.1 (listS relS N s1).2.2 else if okM nm (listS relS N s1).1 = true then 0 else 3 := e1
  have e4 : errB b = 0 → readB b = (nm, (listS relS N s1).1) := e2
  have HM := hide (fun A' n' c' (wx : World) (hx : RlOn wx A' n' (listS relS N s1).1) => refCheckM_any nm (listS relS N s1).1 A' n' c' wx hx hf2 (by omega))
  unfold Tells at HM
  have E1 := hide e3
  have E2 := hide e4
  have hsmall : b.length ≤ 1099511627776 := by omega
  clear e1 e2 e3 e4 hf hf1 hf2 hnm hn
  go_enter Tryz.func72, Tryz.ntmps72
  go_upto_region 4 with fail
  obtain ⟨W0, hW0⟩ : ∃ W, W = w.alloc (.cells #[.string ⟨#[]⟩, .slice none 0 0] 100) := ⟨_, rfl⟩
  have x0 : Blk W0 w.heap.size 100 #[.string ⟨#[]⟩, .slice none 0 0] := by rw [hW0]; exact Blk.new _ _ _
  have z0 : W0.heap.size = w.heap.size + 1 := by rw [hW0]; simp
  have y0 : Below w.heap.size w W0 := by rw [hW0]; exact alloc_b _
  rw [← hW0]
  obtain ⟨W1, hW1⟩ : ∃ W, W = W0.alloc (.cells #[.string (str b), .int .i64 0] 158) := ⟨_, rfl⟩
  have r1 : RdD W1 (w.heap.size + 1) (b, 0) := by rw [hW1, ← z0]; exact ⟨Blk.new _ _ _, hsmall⟩
  have x1 : Blk W1 w.heap.size 100 #[.string ⟨#[]⟩, .slice none 0 0] := by rw [hW1]; exact x0.alloc _
  have y1 : Below w.heap.size w W1 := by rw [hW1]; exact y0.alloc y0.size _
  rw [← hW1]
  clear hW0 hW1 x0 y0 z0
  go_wp2_with (first
    | (go_at_call 99
       refine (HS.out (w.heap.size + 1) W1 r1).mono ?_
       rintro e w2 ⟨rfl, r2, g2⟩
       have x2 := blk_far x1 (by omega) g2
       have y2 : Below w.heap.size w w2 := y1.grown g2 y1.size (fun k hk => by injection hk with hk; omega)
       have y2s := y2.size)
    | (go_at_call 100
       have g7 := r2
       refine (HNn.out (w.heap.size + 1) _ (r2.alloc _)).mono ?_
       rintro e w4 ⟨rfl, r4, g4⟩
       have x3 := x2.alloc (.cells #[.string nm, .slice none 0 0] 100)
       have m3 := Blk.new w2 100 #[.string nm, .slice none 0 0]
       have r2l := r2.lt
       have x4 := blk_far x3 (by omega) g4
       have m4 := blk_far m3 (by omega) g4
       have y4 : Below w.heap.size w w4 := (y2.alloc y2s _).grown g4 (by simp; omega) (fun k hk => by injection hk with hk; omega)))
  clear r1 x1 y1 x2 r2 g7 g2 x3 m3 g4 HS HNn
  go_loopw [7] (fun u wx => ∃ (i : Nat) (rs : List Vr) (v : Value), i ≤ N ∧ u = .int .i64 (i : Int) ∧ Blk wx w2.heap.size 100 #[.string nm, v] ∧ wx.ownsRow w2.heap.size 136 2 v i (vcs rs) ∧ AllN wx rs (listS relS i s1).1 ∧ RdD wx (w.heap.size + 1) (listS relS i s1).2 ∧ Blk wx w.heap.size 100 #[.string ⟨#[]⟩, .slice none 0 0] ∧ Below w.heap.size w wx) (fun u => fun _ => N - (RowKit.intOf u).toNat)
  case atStart => exact ⟨0, [], _, by omega, rfl, m4, World.ownsRow_nil _ _ _ _, ⟨rfl, fun i r q hr _ => by simp at hr⟩, r4, x4, y4⟩
  case round =>
    obtain ⟨i, rs, v, hi, rfl, hm, hown, hall, hri, hx, hy⟩ := hrel
    clear m4 r4 x4 y4
    have hys := hy.size
    have hml := hm.lt
    by_cases hlt : i < N
    · have Hst : Hid (listS relS (i + 1) s1 = ((listS relS i s1).1 ++ [(relS (listS relS i s1).2).1], (relS (listS relS i s1).2).2)) := hide rfl
      have hf3 : FarT wr 136 (some (w.heap.size + 1)) := hri.far (by decide)
      have hf4 : FarT wr 67 (some (w.heap.size + 1)) := hri.far (by decide)
      have hf5 : FarT wr 60 (some (w.heap.size + 1)) := hri.far (by decide)
      generalize (listS relS i s1).1 = l at *
      generalize (listS relS i s1).2 = ss at *
      have HA := hide (HN.out (w.heap.size + 1) 1000000000 ss wr hri)
      have HB := hide (HL.out (w.heap.size + 1) (numS 1000000000 ss).2)
      have e1 : (relS ss).1 = ((numS 1000000000 ss).1, (takeS 6 needS (numS 1000000000 ss).2).1) := rfl
      have e2 : (relS ss).2 = (takeS 6 needS (numS 1000000000 ss).2).2 := rfl
      rw [e1, e2] at Hst
      clear e1 e2
      generalize hq1 : (numS 1000000000 ss).2 = t1 at *
      generalize hq2 : (numS 1000000000 ss).1 = ver at *
      generalize hq3 : (takeS 6 needS t1).2 = t2 at *
      generalize hq4 : (takeS 6 needS t1).1 = nl at *
      clear hq1 hq2 hq3 hq4
      go_upto_region 11 with (first
        | (go_at_call 100
           refine HA.out.mono ?_
           rintro e w5 ⟨rfl, r5, g5⟩
           have hm5 := blk_far hm (by omega) g5
           have hx5 := blk_far hx (by omega) g5
           have hy5 : Below w.heap.size w w5 := hy.grown g5 hys (fun k hk => by injection hk with hk; omega)
           have hown5 := own_far hown hf3 g5
           have hall5 : AllN w5 rs l := hall.mono fun _ _ _ hs => hs.far hf4 hf5 g5
           have hy5s := hy5.size
           have hm5l := hm5.lt)
        | (go_at_call 101
           refine (HB.out _ (r5.alloc _)).mono ?_
           rintro e w6 ⟨A6, n6, c6, rfl, hN6, r6, g6⟩
           have rA := r5.alloc (.cells #[.int .i64 ver, .slice none 0 0] 136)
           have bA := Blk.new w5 136 #[.int .i64 ver, .slice none 0 0]
           have r5l := r5.lt
           have b6 := blk_far bA (by omega) g6
           have hm6 := blk_far (hm5.alloc (.cells #[.int .i64 ver, .slice none 0 0] 136)) (by omega) g6
           have hx6 := blk_far (hx5.alloc (.cells #[.int .i64 ver, .slice none 0 0] 136)) (by omega) g6
           have hy6 : Below w.heap.size w w6 := (hy5.alloc hy5s (.cells #[.int .i64 ver, .slice none 0 0] 136)).grown g6 (by simp; omega) (fun k hk => by injection hk with hk; omega)
           have hown6 := own_far (own_below hown5 (alloc_b (.cells #[.int .i64 ver, .slice none 0 0] 136))) (rA.far (by decide)) g6
           have hall6 : AllN w6 rs l := (hall5.mono fun _ _ _ hs => hs.below (alloc_b (.cells #[.int .i64 ver, .slice none 0 0] 136))).mono fun _ _ _ hs => hs.far (rA.far (by decide)) (rA.far (by decide)) g6
           have hlo5 := fun k hk => (hown5.lt k hk).2
           have f6 := b6.frozen 1
           have k6 := (b6.cell 1).trans (show (#[Value.int .i64 ver, .slice none 0 0] : Array Value)[1]? = some (.slice none 0 0) from rfl)))
      obtain ⟨W7, hW7⟩ : ∃ W, W = w6.setCell ⟨w5.heap.size, 1, none⟩ (.slice A6 n6 c6) := ⟨_, rfl⟩
      have g7 : w6.grownBy W7 (some w5.heap.size) := by rw [hW7]; exact set_only _ _ _ _
      have b7 : Blk W7 w5.heap.size 136 #[.int .i64 ver, .slice A6 n6 c6] := by rw [hW7]; exact b6.set_ 1 _
      have hm7 := blk_far hm6 (by omega) g7
      have hx7 := blk_far hx6 (by omega) g7
      have hy7 : Below w.heap.size w W7 := hy6.grown g7 hy6.size (fun k hk => by injection hk with hk; omega)
      have hown7 := own_ne hown6 g7 (fun k hk e => by injection e with e; have := hlo5 k hk; omega)
      have hall7 : AllN W7 rs l := hall6.mono fun _ _ _ hs => hs.far (farT_blk b6 (by decide)) (farT_blk b6 (by decide)) g7
      have hN7 := hN6.far (farT_blk b6 (by decide)) (farT_blk b6 (by decide)) g7
      have r7 := r6.grown g7 (fun e => by injection e with e; omega)
      rw [← hW7]
      have hy7s := hy7.size
      have hm7l := hm7.lt
      clear hW7 b6 hm6 hx6 hy6 hown6 hall6 hN6 r6 g6 rA bA f6 k6 hm5 hx5 hy5 hown5 hall5 r5 g5 g7
      have p0 := (b7.cell 0).trans (show (#[Value.int .i64 ver, .slice A6 n6 c6] : Array Value)[0]? = some (.int .i64 ver) from rfl)
      have p1 := (b7.cell 1).trans (show (#[Value.int .i64 ver, .slice A6 n6 c6] : Array Value)[1]? = some (.slice A6 n6 c6) from rfl)
      have p2 := (hm7.cell 1).trans (show (#[Value.string nm, v] : Array Value)[1]? = some v from rfl)
      go_wp2_with (first
        | (at_builtin
           refine wpList_append_any _ rfl (.tmp 34) (.tmp 36) _ rfl w2.heap.size 136 i0 _ 2 32 Tryz.underlying98 hi0 hz0 hz1 hz2 rfl (by omega) _ i (vcs rs) rfl
             (hown7.alloc _) _ _ 1 _ _ rfl (reads_rel W7 ver A6 n6 c6 _ _ rfl) (one_rel _ _ _ _) (by simp only [maxLen]; omega) (by omega) (by simp; omega) ?_
           intro v8 w8 hown8 hg8 hat8
           have hownA := hown7.alloc (.cells #[.int .i64 ver, .slice A6 n6 c6] 136)
           have hlo := fun k hk => (hownA.lt k hk).1
           have hmA := hm7.alloc (.cells #[.int .i64 ver, .slice A6 n6 c6] 136)
           have hxA := hx7.alloc (.cells #[.int .i64 ver, .slice A6 n6 c6] 136)
           have hm8 := hmA.grown hg8 (farT_own hownA (T := 100) (by decide) _ _ _ hmA)
           have hx8 := hxA.grown hg8 (farT_own hownA (T := 100) (by decide) _ _ _ hxA)
           have hy8 : Below w.heap.size w w8 := (hy7.alloc hy7s _).grown hg8 (by simp; omega) (fun k hk => by have := hlo k hk; omega)
           have r8 : RdD w8 (w.heap.size + 1) t2 := (r7.alloc _).grown hg8 (fun e => by have := hlo _ e.symm; omega)
           have hall8 : AllN w8 (rs ++ [(ver, .slice A6 n6 c6)]) (l ++ [(ver, nl)]) := ((hall7.mono fun _ _ _ hs => hs.below (alloc_b _)).append (AllN.one (hN7.below (alloc_b _)))).mono fun _ _ _ hs => hs.far (farT_own hownA (by decide)) (farT_own hownA (by decide)) hg8
           rw [← vcs_append] at hown8
           obtain ⟨A8, c8, rfl, _⟩ := own_form hown8
           have f8 := hm8.frozen 1
           have k8 := (hm8.cell 1).trans (show (#[Value.string nm, v] : Array Value)[1]? = some v from rfl)))
      have g9 := set_only w8 w2.heap.size 1 (.slice A8 (i + 1) c8)
      go_roundw
      case rel => exact ⟨i + 1, rs ++ [(ver, .slice A6 n6 c6)], _, by omega, by go_num, hm8.set_ 1 _, own_far hown8 (farT_blk hm8 (by decide)) g9, by rw [Hst.out]; exact hall8.mono fun _ _ _ hs => hs.far (farT_blk hm8 (by decide)) (farT_blk hm8 (by decide)) g9, by rw [Hst.out]; exact r8.grown g9 (fun e => by injection e with e; omega), blk_far hx8 (by omega) g9, hy8.grown g9 hy8.size (fun k hk => by injection hk with hk; omega)⟩
      case measure => simp [RowKit.intOf]; omega
    · have hi2 : i = N := by omega
      subst hi2
      obtain ⟨A2, c2, rfl, hc2, _⟩ := own_form hown
      have hNW : Rls wr w2.heap.size (.slice A2 i c2) i rs (listS relS i s1).1 := ⟨hown, hall⟩
      have HCi := hide (HC.out (w.heap.size + 1) (listS relS i s1).2 wr hri)
      generalize (listS relS i s1).1 = l at *
      generalize hss : (listS relS i s1).2 = ss at *
      generalize closedM ss.1 ss.2 = e0 at *
      obtain ⟨A3, c3, e3, _, hRl⟩ := hNW.told
      injection e3 with e4 e5 e6
      subst e4 e6
      have m0 := (hm.cell 0).trans (show (#[Value.string nm, .slice A2 i c2] : Array Value)[0]? = some (.string nm) from rfl)
      have m1 := (hm.cell 1).trans (show (#[Value.string nm, .slice A2 i c2] : Array Value)[1]? = some (.slice A2 i c2) from rfl)
      have HM2 := hide (HM.out A2 i c2 wr hRl)
      clear HM HC HN HL hown hall hri hss hRl
      by_cases he : e0 = 0
      · subst he
        cases hok : okM nm l
        · rw [hok] at HM2
          have E : Hid (errB b = 3) := hide (by rw [E1.out, hok]; rfl)
          clear E1 E2 hok
          go_wp2_with (first
            | (go_at_call 102
               refine HCi.out.mono ?_
               rintro e w5 ⟨rfl, rfl⟩)
            | (go_at_call 103
               refine HM2.out.mono ?_
               rintro e w6 ⟨rfl, hb6⟩
               have hx6 := hx.below hb6 hx.lt
               have f0 := hx6.frozen 0
               have f1 := hx6.frozen 1
               have k0 := (hx6.cell 0).trans (show (#[Value.string ⟨#[]⟩, .slice none 0 0] : Array Value)[0]? = some (.string ⟨#[]⟩) from rfl)
               have k1 := (hx6.cell 1).trans (show (#[Value.string ⟨#[]⟩, .slice none 0 0] : Array Value)[1]? = some (.slice none 0 0) from rfl)
               have hbb := hy.trans (hb6.mono hys)))
          have hblk := (hx6.set_ 0 (.string ByteArray.empty)).set_ 1 (.slice none 0 0)
          refine bodyPost_ret (results_blk_tmp rfl _ _ w.heap.size 100 _ (0, 0) _ (.int .i64 3) rfl rfl hblk Tryz.underlying100 rfl mani_size) rfl ?_
          exact reads_none (by rw [E.out]; decide) (by rw [E.out]; rfl) (set_two_below hbb _ (Nat.le_refl _) _ _)
        · rw [hok] at HM2
          have E : Hid (errB b = 0) := hide (by rw [E1.out, hok]; rfl)
          have hrb := E2.out E.out
          have HR := hide hrb
          clear E1 E2 hok hrb
          go_wp2_with (first
            | (go_at_call 102
               refine HCi.out.mono ?_
               rintro e w5 ⟨rfl, rfl⟩)
            | (go_at_call 103
               refine HM2.out.mono ?_
               rintro e w6 ⟨rfl, hb6⟩
               have hx6 := hx.below hb6 hx.lt
               have hm6 := hm.below hb6 hm.lt
               have hN6 := hNW.below hb6
               have f0 := hx6.frozen 0
               have f1 := hx6.frozen 1
               have k0 := (hx6.cell 0).trans (show (#[Value.string ⟨#[]⟩, .slice none 0 0] : Array Value)[0]? = some (.string ⟨#[]⟩) from rfl)
               have k1 := (hx6.cell 1).trans (show (#[Value.string ⟨#[]⟩, .slice none 0 0] : Array Value)[1]? = some (.slice none 0 0) from rfl)
               have l0 := (hm6.cell 0).trans (show (#[Value.string nm, .slice A2 i c2] : Array Value)[0]? = some (.string nm) from rfl)
               have l1 := (hm6.cell 1).trans (show (#[Value.string nm, .slice A2 i c2] : Array Value)[1]? = some (.slice A2 i c2) from rfl)
               have hbb := hy.trans (hb6.mono hys)))
          have hblk := (hx6.set_ 0 (.string nm)).set_ 1 (.slice A2 i c2)
          have hN9 := hN6.far (farT_blk hx6 (by decide)) (farT_blk hx6 (by decide)) (farT_blk hx6 (by decide)) (set_two_only w6 w.heap.size (.string nm) (.slice A2 i c2))
          refine bodyPost_ret (results_blk_tmp rfl _ _ w.heap.size 100 _ (0, 0) _ (.int .i64 0) rfl rfl hblk Tryz.underlying100 rfl mani_size) rfl ?_
          have hlr : (readB b).2 = _ := congrArg Prod.snd HR.out
          simp only at hlr
          rw [← hlr] at hN9
          exact ⟨A2, i, c2, _, _, by rw [HR.out, E.out]; rfl, hN9, set_two_below hbb _ (Nat.le_refl _) _ _⟩
      · have E : Hid (errB b = e0) := hide (by rw [E1.out, if_pos he])
        have hb1 : (e0 == 0) = false := beq_eq_false_iff_ne.2 he
        have hb2 : (e0 != 0) = true := bne_iff_ne.2 he
        have Hne := hide he
        have f0 := hx.frozen 0
        have f1 := hx.frozen 1
        have k0 := (hx.cell 0).trans (show (#[Value.string ⟨#[]⟩, .slice none 0 0] : Array Value)[0]? = some (.string ⟨#[]⟩) from rfl)
        have k1 := (hx.cell 1).trans (show (#[Value.string ⟨#[]⟩, .slice none 0 0] : Array Value)[1]? = some (.slice none 0 0) from rfl)
        clear HM2 E1 E2
        go_wp2_with (first
          | (go_at_call 102
             refine HCi.out.mono ?_
             rintro e w5 ⟨rfl, rfl⟩))
        have hblk := (hx.set_ 0 (.string ByteArray.empty)).set_ 1 (.slice none 0 0)
        refine bodyPost_ret (results_blk_tmp rfl _ _ w.heap.size 100 _ (0, 0) _ (.int .i64 e0) rfl rfl hblk Tryz.underlying100 rfl mani_size) rfl ?_
        exact reads_none (by rw [E.out]; exact Hne.out) (by rw [E.out]; rfl) (set_two_below hy _ (Nat.le_refl _) _ _)
theorem refReadR_any (b : List UInt8) (w : World) : Calls Tryz.prog 72 #[.string (str b)] w (ReadsR w b) := by
  rcases Nat.lt_or_ge 8192 b.length with h | h
  · exact refReadLong_any b w h
  · exact refReadShort_any b w h
end Go.Proofs.YtdmejcfnolhplaaGreat.Wire
/-
  The contracts of both Puts in one form, what is read may be looked at, and the chapter's example (awake): it holds. Condition: manifests that are looked at.
-/
namespace Go.Proofs.YtdmejcfnolhplaaGreat.Wire
open Go Go.RowKit Go.Lib Go.Proofs.YtdmejcfnolhplaaGreat.Span Go.Proofs.YtdmejcfnolhplaaGreat.Need Go.Proofs.YtdmejcfnolhplaaGreat.Mani Go.Proofs.YtdmejcfnolhplaaGreat.Grow
open Go.Proofs.YtdmejcfnolhplaaGreat.Label (runes fitL runes_step runes_end rn wd)
open Go.Proofs.YtdmejcfnolhplaaGreat.Vlq (enc held hi_zero)
set_option linter.unusedVariables false
theorem fit_one : fitL (runes (str [97]) 0) = true := by
  rw [runes_step _ _ (by decide), runes_end _ _ (by decide)]
  decide
end Go.Proofs.YtdmejcfnolhplaaGreat.Wire
