/-
  Some texts of this claim, one behind the other: NeedRefBoth. What each proves, and its condition, stands at its head.
-/
import Derived.Test.YtmcpdcfeappokaaGreatDoorZ16
import Derived.Test.YtmcpdcfeappokaaGreatDoorZ19
/-
  Contracts of the document's put and Both: what both need, one need put in after another. Condition: names rise; sets of at most 1,000 spans; at most 1,000 needs each.
-/
namespace Go.Proofs.YtmcpdcfeappokaaGreatDoor.Need
open Go Go.RowKit Go.Lib Go.Proofs.YtmcpdcfeappokaaGreatDoor.Span Go.Proofs.YtmcpdcfeappokaaGreatDoor.Grow
set_option linter.unusedVariables false
theorem put_drop {l : List Nd} {y q : Nd} {i : Nat} {b : Bool} (h : l[i]? = some q) : putN y b (l.drop i) = if b = false ∧ nlt y.1 q.1 = true then y :: q :: putN y true (l.drop (i + 1)) else if y.1 = q.1 then (y.1, meetS q.2 y.2) :: putN y true (l.drop (i + 1)) else q :: putN y b (l.drop (i + 1)) := by
  obtain ⟨hi, e⟩ := List.getElem?_eq_some_iff.1 h
  rw [List.drop_eq_getElem_cons hi, e, putN]
theorem putsN_below1 {B n : Nat} {rs : List Rw} {x : Value} {nm : ByteArray} {s : List S} {w w1 w2 : World} {v : Value} {out : List Nd} (hN : Nds w1 B x n rs out) (hb : Below B w w1) (hB : B ≤ w1.heap.size) (h : putsN B n rs x nm s w1 v w2) : Below B w w2 := by
  obtain ⟨A', n', c', hI, hown, hg⟩ := h
  exact hb.grown hg hB fun k hk => (hN.1.lt k hk).1
theorem putsN_below2 {B C n : Nat} {rs : List Rw} {x : Value} {nm : ByteArray} {s : List S} {w w1 w2 : World} {v : Value} {out : List Nd} (hN : Nds w1 B x n rs out) (hb : Below C w w1) (hC : C ≤ B) (hB : B ≤ w1.heap.size) (h : putsN B n rs x nm s w1 v w2) : Below C w w2 := by
  obtain ⟨A', n', c', hI, hown, hg⟩ := h
  exact hb.grown hg (by omega) fun k hk => by have := (hN.1.lt k hk).1; omega
theorem put_len_le (y : Nd) : ∀ (i : Bool) (a : List Nd), (putN y i a).length ≤ a.length + 1 := by
  have h1 : ∀ a, (putN y true a).length ≤ a.length := by
    intro a
    induction a with
    | nil => simp [putN]
    | cons x t ih =>
      rw [putN, if_neg (by simp)]
      split <;> simp only [List.length_cons] <;> omega
  intro i a
  induction a generalizing i with
  | nil => cases i <;> simp [putN]
  | cons x t ih =>
    have := h1 t
    have := ih i
    rw [putN]
    split
    · simp only [List.length_cons]; omega
    · split <;> simp only [List.length_cons] <;> omega
theorem eq_names_symm (a b : ByteArray) : (a.toList == b.toList) = decide (a = b) := eq_names a b
set_option maxHeartbeats 16000000 in
set_option maxRecDepth 100000 in
theorem refPut_any (l : List Nd) (nm : ByteArray) (s : List S) (A An : Option Addr) (n c nn cn : Nat) (w : World) (h : NdOn w A n l) (hs : SpOn w An nn s)
    (hl : ∀ q ∈ l, nm = q.1 → q.2.length ≤ 1000) (hnn : nn ≤ 1000) (hn : n ≤ 100000) :
    Calls Tryz.prog 33 #[.slice A n c, .agg #[.string nm, .slice An nn cn]] w fun e w' =>
      ∃ A' n' c', e = .returned (.slice A' n' c') ∧ NdOn w' A' n' (putN (nm, s) false l) ∧ Below w.heap.size w w' := by
  obtain ⟨i0, hi0, hz0, hz1, hz2⟩ := info_parts info_need
  have hlen := hide h.len
  have HD := hide (fun i q b => @put_drop l (nm, s) q i b)
  obtain ⟨M, hM⟩ : ∃ M, M = putN (nm, s) false l := ⟨_, rfl⟩
  have HM : Hid ([] ++ putN (nm, s) false (l.drop 0) = M) := hide (by rw [hM]; simp)
  have Hend : ∀ b, Hid (putN (nm, s) b (l.drop n) = if b = true then [] else [(nm, s)]) := fun b => hide (by rw [List.drop_of_length_le (by have := hlen.out; omega)]; cases b <;> rfl)
  rw [← hM]
  clear hM
  go_enter Tryz.func33, Tryz.ntmps33
  go_wp2
  have hB0 := Blk.new w 33 #[.string nm, .slice An nn cn]
  have hb0 := alloc_b (w := w) (.cells #[.string nm, .slice An nn cn] 33)
  go_loopw [5, 6, 7] (fun u b v wr => ∃ (i m : Nat) (inn : Bool) (rs : List Rw) (out : List Nd), i ≤ n ∧ m ≤ 2 * i ∧ b = .bool inn ∧ v = .int .i64 (i : Int) ∧ Nds wr (w.heap.size + 1) u m rs out ∧ Hid (out ++ putN (nm, s) inn (l.drop i) = M) ∧ Blk wr w.heap.size 33 #[.string nm, .slice An nn cn] ∧ Below w.heap.size w wr) (fun _ _ v _ => n - (RowKit.intOf v).toNat)
  case atStart => exact ⟨0, 0, false, [], [], by omega, by omega, rfl, rfl, Nds.nil_ _ _, HM, hB0, hb0⟩
  case round =>
    clear hB0 hb0 HM
    obtain ⟨i, m, inn, rs, out, hi, hm, rfl, rfl, hN, hM, hB, hb⟩ := hrel
    obtain ⟨Ax, cx, rfl, hcx, hx⟩ := hN.told
    have hbs := hb.size
    have hBl := hB.lt
    have hbs1 : w.heap.size + 1 ≤ wr.heap.size := hBl
    have b0 := (hB.cell 0).trans (show (#[Value.string nm, .slice An nn cn] : Array Value)[0]? = some (.string nm) from rfl)
    have b1 := (hB.cell 1).trans (show (#[Value.string nm, .slice An nn cn] : Array Value)[1]? = some (.slice An nn cn) from rfl)
    by_cases hlt : i < n
    · obtain ⟨ad, q, A', n', c', rfl, hbl, hq, ht, c1, c2⟩ := NdIn.at_ (NdIn.below h hb) hlt
      have hql := hl q (List.mem_of_getElem? hq)
      have hd := (congrArg (out ++ ·) (HD.out i q inn hq)).symm.trans hM.out
      obtain ⟨x, t⟩ := q
      simp only [] at c1 c2 ht hql hd
      have htl := ht.1
      have Ht : Hid (SpIn wr (w.heap.size + 1) A' n' t) := hide (ht.more (by omega))
      have Hs : Hid (SpIn wr (w.heap.size + 1) An nn s) := hide ((SpIn.below hs hb).more (by omega))
      have htri := tri nm x
      have he := eq_names nm x
      have hi1 : (0 : Int) ≤ (i : Int) := by omega
      have hi2 : (i : Int) < (n : Int) := by omega
      have HE := hide (fun (hnx : nm = x) (wx : World) (hbx : Below wr.heap.size wr wx) => @refMeet_any _ _ c' _ _ cn A' An t s wx (ht.below (hbx.mono hbs)) ((SpIn.below hs hb).below (hbx.mono hbs)) (Nat.le_trans hbs hbx.size) (Nat.le_trans hbs hbx.size) (by have := hql hnx; omega) hnn)
      clear hq ht hql htl hx HD hs h hl hM
      cases inn
      · rcases htri with ⟨f1, f2, f3⟩ | ⟨f1, f2, f3⟩ | ⟨f1, f2, f3⟩
        · have hne : ¬ nm = x := fun e => by rw [f3] at he; rw [decide_eq_true e] at he; cases he
          have Hd := hide (show out ++ (nm, s) :: (x, t) :: putN (nm, s) true (l.drop (i + 1)) = M by rw [if_pos ⟨rfl, f1⟩] at hd; exact hd)
          clear hd f2 he hne HE
          have B0 := hide b0
          have B1 := hide b1
          have C1 := hide c1
          have C2 := hide c2
          go_upto_region 6 with fail
          go_quiet (fail)
          generalize nq = kq
          generalize hwq : wr.drewN kq = wq
          have hbq : Below wr.heap.size wr wq := by rw [← hwq]; exact quiet_b _
          clear hwq b0 b1 c1 c2
          have b0 := (hbq.cell (p := ⟨w.heap.size, 0, none⟩) hBl).trans B0.out
          have b1 := (hbq.cell (p := ⟨w.heap.size, 1, none⟩) hBl).trans B1.out
          have c1 := (hbq.cell (p := ad.add (i * 2)) (by rw [block_of_add]; omega)).trans C1.out
          have c2 := (hbq.cell (p := ⟨(ad.add (i * 2)).block, (ad.add (i * 2)).off + 1, none⟩) (by simp only [block_of_add]; omega)).trans C2.out
          have hNq := hN.below hbq
          have hbqs := hbq.size
          go_upto_region 9 with
            (at_builtin
             refine wpList_append_any _ rfl (.tmp 26) (.tmp 28) _ rfl (w.heap.size + 1) 33 i0 _ 2 40 Tryz.underlying22 hi0 hz0 hz1 hz2 rfl (by omega) _ (m) (rcs rs) rfl
               (own_below hNq.1 (alloc_b _)) _ _ 1 _ _ rfl (reads_need _ nm An nn cn _ _ (by simp)) (one_need _ _ _ _) (by unfold maxLen; omega) (by omega) (by have := hbq.size; simp; omega) ?_
             intro vw2 w2 hownw2 hgw2 hatw2
             have hAw2 := (alloc_b (w := wq) (.cells #[.string nm, .slice An nn cn] 33))
             have hNw2 := (hNq.below hAw2).cat (AllIn.one (InS.below (InS.of_in (Hs.out.below (hbq.mono hbs1)) (Nat.le_trans hbs1 hbq.size)) hAw2)) hownw2 hgw2
             have hbbw2 : Below w.heap.size w w2 := ((hb.trans (hbq.mono hbs)).trans (hAw2.mono (Nat.le_trans hbs hbq.size))).grown hgw2 (by have := hbq.size; simp; omega) (fun k hk => by have := (hNq.1.lt k hk).1; omega)
             have hbww2 : Below (w.heap.size + 1) wr w2 := ((hbq.mono hbs1).trans (hAw2.mono (Nat.le_trans hbs1 hbq.size))).grown hgw2 (by have := hbq.size; simp; omega) (fun k hk => (hNq.1.lt k hk).1))
          clear b0 b1 c1 c2
          have hbw2 : Below w.heap.size w w2 := hbbw2
          have e0 : ∀ p : Addr, p.block < w.heap.size + 1 → w2.cell? p = wr.cell? p := fun p hp => hbww2.cell hp
          have b0 := (e0 ⟨w.heap.size, 0, none⟩ (by show w.heap.size < _; omega)).trans B0.out
          have b1 := (e0 ⟨w.heap.size, 1, none⟩ (by show w.heap.size < _; omega)).trans B1.out
          have c1 := (e0 (ad.add (i * 2)) (by rw [block_of_add]; omega)).trans C1.out
          have c2 := (e0 ⟨(ad.add (i * 2)).block, (ad.add (i * 2)).off + 1, none⟩ (by simp only [block_of_add]; omega)).trans C2.out
          obtain ⟨A2x, c2x, rfl, _, _⟩ := hNw2.told
          have hbs2 := hbbw2.size
          clear e0
          go_quiet (fail)
          generalize nq = kq
          generalize hwq : w2.drewN kq = wz
          have hbz : Below w2.heap.size w2 wz := by rw [← hwq]; exact quiet_b _
          clear hwq
          have b0' := (hbz.cell (p := ⟨w.heap.size, 0, none⟩) (by have := hbww2.size; show w.heap.size < _; omega)).trans b0
          have c1' := (hbz.cell (p := ad.add (i * 2)) (by rw [block_of_add]; omega)).trans c1
          have c2' := (hbz.cell (p := ⟨(ad.add (i * 2)).block, (ad.add (i * 2)).off + 1, none⟩) (by simp only [block_of_add]; omega)).trans c2
          clear b0 b1 c1 c2
          have hNz := hNw2.below hbz
          have hbzs := hbz.size
          have hww2 := hbww2.size
          go_wp2_with
            (at_builtin
             refine wpList_append_any _ rfl (.tmp 52) (.tmp 57) _ rfl (w.heap.size + 1) 33 i0 _ 2 40 Tryz.underlying22 hi0 hz0 hz1 hz2 rfl (by omega) _ (m + 1) (rcs (rs ++ [(nm, .slice An nn cn)])) rfl
               (own_below hNz.1 (alloc_b _)) _ _ 1 _ _ rfl (reads_need _ x A' n' c' _ _ (by simp)) (one_need _ _ _ _) (by unfold maxLen; omega) (by omega) (by simp; omega) ?_
             intro v5 w5 hown5 hg5 hat5
             have hA5 := (alloc_b (w := wz) (.cells #[.string x, .slice A' n' c'] 33))
             have hN5 := (hNz.below hA5).cat (AllIn.one (InS.below (InS.of_in ((Ht.out.below hbww2).below (hbz.mono (by omega))) (by omega)) hA5)) hown5 hg5
             have hbb5 : Below w.heap.size w w5 := ((hbbw2.trans (hbz.mono hbs2)).trans (hA5.mono (by omega))).grown hg5 (by simp; omega) (fun k hk => by have := (hNz.1.lt k hk).1; omega)
             have hbw5 : Below (w.heap.size + 1) wr w5 := ((hbww2.trans (hbz.mono (by omega))).trans (hA5.mono (by omega))).grown hg5 (by simp; omega) (fun k hk => (hNz.1.lt k hk).1))
          go_roundw
          case rel => exact ⟨i + 1, m + 1 + 1, true, _, _, by omega, by omega, rfl, by go_num, hN5, hide (by rw [← Hd.out]; simp), hB.below hbw5 (by omega), hbb5⟩
          case measure => simp [RowKit.intOf]; omega
        · have hnx : nm = x := by rw [f3] at he; exact of_decide_eq_true he.symm
          have Hd := hide (show out ++ (nm, meetS t s) :: putN (nm, s) true (l.drop (i + 1)) = M by rw [if_neg (fun g => by have := g.2; unfold nlt at this; rw [f1] at this; cases this), if_pos hnx] at hd; exact hd)
          have HE2 := hide (HE.out hnx)
          clear hd f2 he hnx HE
          have B0 := hide b0
          have B1 := hide b1
          have C1 := hide c1
          have C2 := hide c2
          go_upto_region 6 with fail
          go_quiet (fail)
          generalize nq = kq
          generalize hwq : wr.drewN kq = wq
          have hbq : Below wr.heap.size wr wq := by rw [← hwq]; exact quiet_b _
          clear hwq b0 b1 c1 c2
          have b0 := (hbq.cell (p := ⟨w.heap.size, 0, none⟩) hBl).trans B0.out
          have b1 := (hbq.cell (p := ⟨w.heap.size, 1, none⟩) hBl).trans B1.out
          have c1 := (hbq.cell (p := ad.add (i * 2)) (by rw [block_of_add]; omega)).trans C1.out
          have c2 := (hbq.cell (p := ⟨(ad.add (i * 2)).block, (ad.add (i * 2)).off + 1, none⟩) (by simp only [block_of_add]; omega)).trans C2.out
          go_upto_region 9 with fail
          go_quiet (fail)
          generalize nq = kq
          generalize hwq : wq.drewN kq = wz
          have hbz : Below wr.heap.size wr wz := by rw [← hwq]; exact below_drewN hbq _
          clear hwq b0 b1 c1 c2
          have b0 := (hbz.cell (p := ⟨w.heap.size, 0, none⟩) hBl).trans B0.out
          have b1 := (hbz.cell (p := ⟨w.heap.size, 1, none⟩) hBl).trans B1.out
          have c1 := (hbz.cell (p := ad.add (i * 2)) (by rw [block_of_add]; omega)).trans C1.out
          have c2 := (hbz.cell (p := ⟨(ad.add (i * 2)).block, (ad.add (i * 2)).off + 1, none⟩) (by simp only [block_of_add]; omega)).trans C2.out
          have hNz := hN.below hbz
          have hbzs := hbz.size
          have q0 := cell_reg_ b0 (by show w.heap.size < _; omega)
          have q1 := cell_reg_ b1 (by show w.heap.size < _; omega)
          have q2 := cell_reg_ c1 (by rw [block_of_add]; omega)
          have q3 := cell_reg_ c2 (by simp only [block_of_add]; omega)
          clear b0 b1 c1 c2
          generalize meetS t s = MM at *
          go_upto_region 10 with fail
          refine wp_region_grow_w [(48, isS (w.heap.size + 1) MM), (49, needV nm MM), (50, rowN (w.heap.size + 1) nm MM)] [48, 49, 50] 13 (putsN (w.heap.size + 1) m rs (.slice Ax m cx) nm MM) _
            (by kernel_rfl) (by kernel_rfl) rfl (by kernel_rfl) (by kernel_rfl) (by kernel_rfl) rfl rfl (by kernel_rfl) (by kernel_rfl) ⟨isS_stable _ _, needV_stable _ _, rowN_stable _ _ _, trivial⟩ ?_
          repeat (first
            | (refine lexK_skip (by decide) rfl ?_; simp only [Act.put, List.setIfInBounds_toArray, List.set_cons_zero, List.set_cons_succ])
            | (refine lexK_quiet (by decide) rfl rfl rfl (fun K hK => ?_); unfold Reg; go_big_quiet_op; refine hK _ ?_; clear hK K)
            | (refine lexK_rel (by decide) rfl rfl (fun w' hb9 hK => ?_) (fun v w' hb9 hv => ?_)
               · unfold grows
                 go_simp
                 go_at_call 47
                 refine (HE2.out w' (hbz.trans (hb9.mono hbz.size))).mono ?_
                 rintro e w5 ⟨A5, n5, c5, rfl, hN5, hb5⟩
                 exact ⟨_, rfl, hb5, A5, n5, c5, rfl, hN5.less (by have := hb9.size; omega)⟩
               obtain ⟨A8, n8, c8, rfl, hI8⟩ := hv
               simp only [Act.put, List.setIfInBounds_toArray, List.set_cons_zero, List.set_cons_succ])
            | (refine lexK_rel (by decide) rfl rfl (fun w' hb9 hK => ?_) (fun v w' hb9 hv => ?_)
               · obtain ⟨A9, n9, c9, e9, hI9⟩ := hK.at_ 48 rfl rfl (slice_def2 _ _ _)
                 have e10 : Value.slice A8 n8 c8 = .slice A9 n9 c9 := e9
                 injection e10 with e11 e12 e13
                 subst e11 e12 e13
                 unfold grows
                 go_simp
                 exact ⟨Below.refl _ _, A8, n8, c8, rfl, InS.of_new hI9⟩
               obtain ⟨A6, n6, c6, rfl, hI6⟩ := hv
               simp only [Act.put, List.setIfInBounds_toArray, List.set_cons_zero, List.set_cons_succ])
            | (refine lexK_rel (by decide) rfl rfl (fun w' hb9 hK => ?_) (fun v w' hb9 hv => ?_)
               · obtain ⟨A9, n9, c9, e9, hI9⟩ := hK.at_ 49 rfl rfl (agg_def2 _)
                 have e10 : Value.agg #[.string nm, .slice A6 n6 c6] = .agg #[.string nm, .slice A9 n9 c9] := e9
                 injection e10 with e10
                 injection e10 with e10
                 simp only [List.cons.injEq, Value.slice.injEq, and_true, true_and] at e10
                 obtain ⟨rfl, rfl, rfl⟩ := e10
                 unfold grows
                 go_simp
                 exact ⟨alloc_b _, some ⟨w'.heap.size, 0, none⟩, 1, A6, n6, c6, rfl, (reads_need w' nm A6 n6 c6 _ _ rfl).more (by simp), (hI9.any _).below (alloc_b _)⟩
               obtain ⟨A7, c7, A3, n3, c3, rfl, hr7, hI7⟩ := hv
               simp only [Act.put, List.setIfInBounds_toArray, List.set_cons_zero, List.set_cons_succ])
            | (refine lexK_wr rfl rfl (fun w' hb9 hK => ?_) (fun v w' w'' hb9 hv => ?_)
               · obtain ⟨A4, c4, A5, n5, c5, e4, hr4, hI4⟩ := hK.at_ 50 rfl (slice_def2 _ _ _)
                 injection e4 with e5 e6 e7
                 subst e5 e7
                 have hN4 := hNz.below hb9
                 refine grows_append (.tmp 38) (.tmp 50) _ rfl (w.heap.size + 1) 33 i0 _ 2 40 Tryz.underlying22 hi0 hz0 hz1 hz2 rfl (by omega) _ m (rcs rs) rfl hN4.1 _ _ 1 _ _ rfl hr4 (one_need _ _ _ _) (by unfold maxLen; omega) (by omega) (by have := hb9.size; omega) ?_
                 intro v' w5 hown hg _
                 exact ⟨_, _, _, hI4, hown, hg⟩
               obtain ⟨Av, cv, rfl⟩ := putsN_slice hv
               simp only [Act.put, List.setIfInBounds_toArray, List.set_cons_zero, List.set_cons_succ])
            | (refine lexK_late (by decide) rfl rfl (fun K hK => ?_); go_big_quiet_op; refine hK _ ?_; clear hK K))
          refine lexK_nil (fun w9 w1 v hC9 hall hS hd => ?_)
          have hb9 := reg_iff.1 hC9
          have hv9 := (hd 51 rfl).resolve_right (slice_def2 _ _ _)
          have hv9' : Value.slice Av (m + 1) cv = v := hv9
          subst hv9'
          have hbz1 := hbz.trans (hb9.mono hbzs)
          have hN9 := hNz.below hb9
          obtain ⟨rs9, hN10⟩ := putsN_told hN9 hS
          have hbb10 := putsN_below2 hN9 (hb.trans (hbz1.mono hbs)) (by omega) (Nat.le_trans hbs1 hbz1.size) hS
          have hbw10 := putsN_below1 hN9 (hbz1.mono hbs1) (Nat.le_trans hbs1 hbz1.size) hS
          clear hall hd hS hv9 hC9 q0 q1 q2 q3
          go_wp2
          go_roundw
          case rel => exact ⟨i + 1, m + 1, true, _, _, by omega, by omega, rfl, by go_num, hN10, hide (by rw [← Hd.out]; simp), hB.below hbw10 (by omega), hbb10⟩
          case measure => simp [RowKit.intOf]; omega
        · have hne : ¬ nm = x := fun e => by rw [f3] at he; rw [decide_eq_true e] at he; cases he
          have Hd := hide (show out ++ (x, t) :: putN (nm, s) false (l.drop (i + 1)) = M by rw [if_neg (fun g => by have := g.2; unfold nlt at this; rw [f1] at this; cases this), if_neg hne] at hd; exact hd)
          clear hd f2 he hne HE
          have B0 := hide b0
          have B1 := hide b1
          have C1 := hide c1
          have C2 := hide c2
          go_upto_region 6 with fail
          go_quiet (fail)
          generalize nq = kq
          generalize hwq : wr.drewN kq = wq
          have hbq : Below wr.heap.size wr wq := by rw [← hwq]; exact quiet_b _
          clear hwq b0 b1 c1 c2
          have b0 := (hbq.cell (p := ⟨w.heap.size, 0, none⟩) hBl).trans B0.out
          have b1 := (hbq.cell (p := ⟨w.heap.size, 1, none⟩) hBl).trans B1.out
          have c1 := (hbq.cell (p := ad.add (i * 2)) (by rw [block_of_add]; omega)).trans C1.out
          have c2 := (hbq.cell (p := ⟨(ad.add (i * 2)).block, (ad.add (i * 2)).off + 1, none⟩) (by simp only [block_of_add]; omega)).trans C2.out
          go_upto_region 9 with fail
          go_quiet (fail)
          generalize nq = kq
          generalize hwq : wq.drewN kq = wz
          have hbz : Below wr.heap.size wr wz := by rw [← hwq]; exact below_drewN hbq _
          clear hwq b0 b1 c1 c2
          have b0 := (hbz.cell (p := ⟨w.heap.size, 0, none⟩) hBl).trans B0.out
          have b1 := (hbz.cell (p := ⟨w.heap.size, 1, none⟩) hBl).trans B1.out
          have c1 := (hbz.cell (p := ad.add (i * 2)) (by rw [block_of_add]; omega)).trans C1.out
          have c2 := (hbz.cell (p := ⟨(ad.add (i * 2)).block, (ad.add (i * 2)).off + 1, none⟩) (by simp only [block_of_add]; omega)).trans C2.out
          have hNz := hN.below hbz
          have hbzs := hbz.size
          go_wp2_with
            (at_builtin
             refine wpList_append_any _ rfl (.tmp 52) (.tmp 57) _ rfl (w.heap.size + 1) 33 i0 _ 2 40 Tryz.underlying22 hi0 hz0 hz1 hz2 rfl (by omega) _ (m) (rcs rs) rfl
               (own_below hNz.1 (alloc_b _)) _ _ 1 _ _ rfl (reads_need _ x A' n' c' _ _ (by simp)) (one_need _ _ _ _) (by unfold maxLen; omega) (by omega) (by have := hbz.size; simp; omega) ?_
             intro vw5 w5 hownw5 hgw5 hatw5
             have hAw5 := (alloc_b (w := wz) (.cells #[.string x, .slice A' n' c'] 33))
             have hNw5 := (hNz.below hAw5).cat (AllIn.one (InS.below (InS.of_in (Ht.out.below (hbz.mono hbs1)) (Nat.le_trans hbs1 hbz.size)) hAw5)) hownw5 hgw5
             have hbbw5 : Below w.heap.size w w5 := ((hb.trans (hbz.mono hbs)).trans (hAw5.mono (Nat.le_trans hbs hbz.size))).grown hgw5 (by have := hbz.size; simp; omega) (fun k hk => by have := (hNz.1.lt k hk).1; omega)
             have hbww5 : Below (w.heap.size + 1) wr w5 := ((hbz.mono hbs1).trans (hAw5.mono (Nat.le_trans hbs1 hbz.size))).grown hgw5 (by have := hbz.size; simp; omega) (fun k hk => (hNz.1.lt k hk).1))
          go_roundw
          case rel => exact ⟨i + 1, m + 1, _, _, _, by omega, by omega, rfl, by go_num, hNw5, hide (by rw [← Hd.out]; simp), hB.below hbww5 (by omega), hbbw5⟩
          case measure => simp [RowKit.intOf]; omega
      · by_cases hnx : nm = x
        · have Hd := hide (show out ++ (nm, meetS t s) :: putN (nm, s) true (l.drop (i + 1)) = M by rw [if_neg (fun g => by cases g.1), if_pos hnx] at hd; exact hd)
          have HE2 := hide (HE.out hnx)
          have f3 := he
          rw [decide_eq_true hnx] at f3
          clear hd he hnx HE htri
          have B0 := hide b0
          have B1 := hide b1
          have C1 := hide c1
          have C2 := hide c2
          go_upto_region 6 with fail
          go_quiet (fail)
          generalize nq = kq
          generalize hwq : wr.drewN kq = wq
          have hbq : Below wr.heap.size wr wq := by rw [← hwq]; exact quiet_b _
          clear hwq b0 b1 c1 c2
          have b0 := (hbq.cell (p := ⟨w.heap.size, 0, none⟩) hBl).trans B0.out
          have b1 := (hbq.cell (p := ⟨w.heap.size, 1, none⟩) hBl).trans B1.out
          have c1 := (hbq.cell (p := ad.add (i * 2)) (by rw [block_of_add]; omega)).trans C1.out
          have c2 := (hbq.cell (p := ⟨(ad.add (i * 2)).block, (ad.add (i * 2)).off + 1, none⟩) (by simp only [block_of_add]; omega)).trans C2.out
          go_upto_region 9 with fail
          go_quiet (fail)
          generalize nq = kq
          generalize hwq : wq.drewN kq = wz
          have hbz : Below wr.heap.size wr wz := by rw [← hwq]; exact below_drewN hbq _
          clear hwq b0 b1 c1 c2
          have b0 := (hbz.cell (p := ⟨w.heap.size, 0, none⟩) hBl).trans B0.out
          have b1 := (hbz.cell (p := ⟨w.heap.size, 1, none⟩) hBl).trans B1.out
          have c1 := (hbz.cell (p := ad.add (i * 2)) (by rw [block_of_add]; omega)).trans C1.out
          have c2 := (hbz.cell (p := ⟨(ad.add (i * 2)).block, (ad.add (i * 2)).off + 1, none⟩) (by simp only [block_of_add]; omega)).trans C2.out
          have hNz := hN.below hbz
          have hbzs := hbz.size
          have q0 := cell_reg_ b0 (by show w.heap.size < _; omega)
          have q1 := cell_reg_ b1 (by show w.heap.size < _; omega)
          have q2 := cell_reg_ c1 (by rw [block_of_add]; omega)
          have q3 := cell_reg_ c2 (by simp only [block_of_add]; omega)
          clear b0 b1 c1 c2
          generalize meetS t s = MM at *
          go_upto_region 10 with fail
          refine wp_region_grow_w [(48, isS (w.heap.size + 1) MM), (49, needV nm MM), (50, rowN (w.heap.size + 1) nm MM)] [48, 49, 50] 13 (putsN (w.heap.size + 1) m rs (.slice Ax m cx) nm MM) _
            (by kernel_rfl) (by kernel_rfl) rfl (by kernel_rfl) (by kernel_rfl) (by kernel_rfl) rfl rfl (by kernel_rfl) (by kernel_rfl) ⟨isS_stable _ _, needV_stable _ _, rowN_stable _ _ _, trivial⟩ ?_
          repeat (first
            | (refine lexK_skip (by decide) rfl ?_; simp only [Act.put, List.setIfInBounds_toArray, List.set_cons_zero, List.set_cons_succ])
            | (refine lexK_quiet (by decide) rfl rfl rfl (fun K hK => ?_); unfold Reg; go_big_quiet_op; refine hK _ ?_; clear hK K)
            | (refine lexK_rel (by decide) rfl rfl (fun w' hb9 hK => ?_) (fun v w' hb9 hv => ?_)
               · unfold grows
                 go_simp
                 go_at_call 47
                 refine (HE2.out w' (hbz.trans (hb9.mono hbz.size))).mono ?_
                 rintro e w5 ⟨A5, n5, c5, rfl, hN5, hb5⟩
                 exact ⟨_, rfl, hb5, A5, n5, c5, rfl, hN5.less (by have := hb9.size; omega)⟩
               obtain ⟨A8, n8, c8, rfl, hI8⟩ := hv
               simp only [Act.put, List.setIfInBounds_toArray, List.set_cons_zero, List.set_cons_succ])
            | (refine lexK_rel (by decide) rfl rfl (fun w' hb9 hK => ?_) (fun v w' hb9 hv => ?_)
               · obtain ⟨A9, n9, c9, e9, hI9⟩ := hK.at_ 48 rfl rfl (slice_def2 _ _ _)
                 have e10 : Value.slice A8 n8 c8 = .slice A9 n9 c9 := e9
                 injection e10 with e11 e12 e13
                 subst e11 e12 e13
                 unfold grows
                 go_simp
                 exact ⟨Below.refl _ _, A8, n8, c8, rfl, InS.of_new hI9⟩
               obtain ⟨A6, n6, c6, rfl, hI6⟩ := hv
               simp only [Act.put, List.setIfInBounds_toArray, List.set_cons_zero, List.set_cons_succ])
            | (refine lexK_rel (by decide) rfl rfl (fun w' hb9 hK => ?_) (fun v w' hb9 hv => ?_)
               · obtain ⟨A9, n9, c9, e9, hI9⟩ := hK.at_ 49 rfl rfl (agg_def2 _)
                 have e10 : Value.agg #[.string nm, .slice A6 n6 c6] = .agg #[.string nm, .slice A9 n9 c9] := e9
                 injection e10 with e10
                 injection e10 with e10
                 simp only [List.cons.injEq, Value.slice.injEq, and_true, true_and] at e10
                 obtain ⟨rfl, rfl, rfl⟩ := e10
                 unfold grows
                 go_simp
                 exact ⟨alloc_b _, some ⟨w'.heap.size, 0, none⟩, 1, A6, n6, c6, rfl, (reads_need w' nm A6 n6 c6 _ _ rfl).more (by simp), (hI9.any _).below (alloc_b _)⟩
               obtain ⟨A7, c7, A3, n3, c3, rfl, hr7, hI7⟩ := hv
               simp only [Act.put, List.setIfInBounds_toArray, List.set_cons_zero, List.set_cons_succ])
            | (refine lexK_wr rfl rfl (fun w' hb9 hK => ?_) (fun v w' w'' hb9 hv => ?_)
               · obtain ⟨A4, c4, A5, n5, c5, e4, hr4, hI4⟩ := hK.at_ 50 rfl (slice_def2 _ _ _)
                 injection e4 with e5 e6 e7
                 subst e5 e7
                 have hN4 := hNz.below hb9
                 refine grows_append (.tmp 38) (.tmp 50) _ rfl (w.heap.size + 1) 33 i0 _ 2 40 Tryz.underlying22 hi0 hz0 hz1 hz2 rfl (by omega) _ m (rcs rs) rfl hN4.1 _ _ 1 _ _ rfl hr4 (one_need _ _ _ _) (by unfold maxLen; omega) (by omega) (by have := hb9.size; omega) ?_
                 intro v' w5 hown hg _
                 exact ⟨_, _, _, hI4, hown, hg⟩
               obtain ⟨Av, cv, rfl⟩ := putsN_slice hv
               simp only [Act.put, List.setIfInBounds_toArray, List.set_cons_zero, List.set_cons_succ])
            | (refine lexK_late (by decide) rfl rfl (fun K hK => ?_); go_big_quiet_op; refine hK _ ?_; clear hK K))
          refine lexK_nil (fun w9 w1 v hC9 hall hS hd => ?_)
          have hb9 := reg_iff.1 hC9
          have hv9 := (hd 51 rfl).resolve_right (slice_def2 _ _ _)
          have hv9' : Value.slice Av (m + 1) cv = v := hv9
          subst hv9'
          have hbz1 := hbz.trans (hb9.mono hbzs)
          have hN9 := hNz.below hb9
          obtain ⟨rs9, hN10⟩ := putsN_told hN9 hS
          have hbb10 := putsN_below2 hN9 (hb.trans (hbz1.mono hbs)) (by omega) (Nat.le_trans hbs1 hbz1.size) hS
          have hbw10 := putsN_below1 hN9 (hbz1.mono hbs1) (Nat.le_trans hbs1 hbz1.size) hS
          clear hall hd hS hv9 hC9 q0 q1 q2 q3
          go_wp2
          go_roundw
          case rel => exact ⟨i + 1, m + 1, true, _, _, by omega, by omega, rfl, by go_num, hN10, hide (by rw [← Hd.out]; simp), hB.below hbw10 (by omega), hbb10⟩
          case measure => simp [RowKit.intOf]; omega
        · have Hd := hide (show out ++ (x, t) :: putN (nm, s) true (l.drop (i + 1)) = M by rw [if_neg (fun g => by cases g.1), if_neg hnx] at hd; exact hd)
          have f3 := he
          rw [decide_eq_false hnx] at f3
          clear hd he hnx HE htri
          have B0 := hide b0
          have B1 := hide b1
          have C1 := hide c1
          have C2 := hide c2
          go_upto_region 6 with fail
          go_quiet (fail)
          generalize nq = kq
          generalize hwq : wr.drewN kq = wq
          have hbq : Below wr.heap.size wr wq := by rw [← hwq]; exact quiet_b _
          clear hwq b0 b1 c1 c2
          have b0 := (hbq.cell (p := ⟨w.heap.size, 0, none⟩) hBl).trans B0.out
          have b1 := (hbq.cell (p := ⟨w.heap.size, 1, none⟩) hBl).trans B1.out
          have c1 := (hbq.cell (p := ad.add (i * 2)) (by rw [block_of_add]; omega)).trans C1.out
          have c2 := (hbq.cell (p := ⟨(ad.add (i * 2)).block, (ad.add (i * 2)).off + 1, none⟩) (by simp only [block_of_add]; omega)).trans C2.out
          go_upto_region 9 with fail
          go_quiet (fail)
          generalize nq = kq
          generalize hwq : wq.drewN kq = wz
          have hbz : Below wr.heap.size wr wz := by rw [← hwq]; exact below_drewN hbq _
          clear hwq b0 b1 c1 c2
          have b0 := (hbz.cell (p := ⟨w.heap.size, 0, none⟩) hBl).trans B0.out
          have b1 := (hbz.cell (p := ⟨w.heap.size, 1, none⟩) hBl).trans B1.out
          have c1 := (hbz.cell (p := ad.add (i * 2)) (by rw [block_of_add]; omega)).trans C1.out
          have c2 := (hbz.cell (p := ⟨(ad.add (i * 2)).block, (ad.add (i * 2)).off + 1, none⟩) (by simp only [block_of_add]; omega)).trans C2.out
          have hNz := hN.below hbz
          have hbzs := hbz.size
          go_wp2_with
            (at_builtin
             refine wpList_append_any _ rfl (.tmp 52) (.tmp 57) _ rfl (w.heap.size + 1) 33 i0 _ 2 40 Tryz.underlying22 hi0 hz0 hz1 hz2 rfl (by omega) _ (m) (rcs rs) rfl
               (own_below hNz.1 (alloc_b _)) _ _ 1 _ _ rfl (reads_need _ x A' n' c' _ _ (by simp)) (one_need _ _ _ _) (by unfold maxLen; omega) (by omega) (by have := hbz.size; simp; omega) ?_
             intro vw5 w5 hownw5 hgw5 hatw5
             have hAw5 := (alloc_b (w := wz) (.cells #[.string x, .slice A' n' c'] 33))
             have hNw5 := (hNz.below hAw5).cat (AllIn.one (InS.below (InS.of_in (Ht.out.below (hbz.mono hbs1)) (Nat.le_trans hbs1 hbz.size)) hAw5)) hownw5 hgw5
             have hbbw5 : Below w.heap.size w w5 := ((hb.trans (hbz.mono hbs)).trans (hAw5.mono (Nat.le_trans hbs hbz.size))).grown hgw5 (by have := hbz.size; simp; omega) (fun k hk => by have := (hNz.1.lt k hk).1; omega)
             have hbww5 : Below (w.heap.size + 1) wr w5 := ((hbz.mono hbs1).trans (hAw5.mono (Nat.le_trans hbs1 hbz.size))).grown hgw5 (by have := hbz.size; simp; omega) (fun k hk => (hNz.1.lt k hk).1))
          go_roundw
          case rel => exact ⟨i + 1, m + 1, _, _, _, by omega, by omega, rfl, by go_num, hNw5, hide (by rw [← Hd.out]; simp), hB.below hbww5 (by omega), hbbw5⟩
          case measure => simp [RowKit.intOf]; omega
    · have hi2 : i = n := by omega
      subst hi2
      have hm2 := hM.out
      rw [(Hend inn).out] at hm2
      have Hm2 := hide hm2
      have hs3 : SpIn wr (w.heap.size + 1) An nn s := (SpIn.below hs hb).more (by omega)
      clear hM Hend HD hm2
      cases inn
      · go_wp2_with (at_builtin
                     refine wpList_append_any _ rfl (.tmp 61) (.tmp 63) _ rfl (w.heap.size + 1) 33 i0 _ 2 40 Tryz.underlying22 hi0 hz0 hz1 hz2 rfl (by omega) _ m (rcs rs) rfl
                       (own_below hN.1 (alloc_b _)) _ _ 1 _ _ rfl (reads_need _ nm An nn cn _ _ (by simp)) (one_need _ _ _ _) (by unfold maxLen; omega) (by omega) (by simp; omega) ?_
                     intro v1 w2 hown2 hg2 hat2
                     have hA := (alloc_b (w := wr) (.cells #[.string nm, .slice An nn cn] 33))
                     have hN2 := (hN.below hA).cat (AllIn.one ((InS.of_in hs3 hbs1).below hA)) hown2 hg2
                     have hb2 : Below w.heap.size w w2 := (hb.alloc hbs _).grown hg2 (by simp; omega) (fun k hk => by have := (hN.1.lt k hk).1; omega))
        obtain ⟨Aq, cq, rfl, _, hq⟩ := hN2.told
        have e : out ++ [(nm, s)] = M := Hm2.out
        rw [e] at hq
        go_ret
        exact ⟨Aq, m + 1, cq, rfl, hq, hb2⟩
      · go_wp2
        have e : out = M := by rw [← Hm2.out]; simp
        rw [e] at hx
        go_ret
        exact ⟨Ax, m, ⟨cx, rfl⟩, hx, hb⟩
theorem fold_step {b : List Nd} {i : Nat} {q : Nd} (h : b[i]? = some q) (a : List Nd) : (b.take (i + 1)).foldl (fun l n => putN n false l) a = putN q false ((b.take i).foldl (fun l n => putN n false l) a) := by
  rw [List.take_add_one, h]
  simp
set_option maxHeartbeats 4000000 in
set_option maxRecDepth 100000 in
theorem refBothN_any (a b : List Nd) (Aa Ab : Option Addr) (na ca nb cb : Nat) (w : World) (ha : NdOn w Aa na a) (hb : NdOn w Ab nb b)
    (hra : Rises a) (hrb : Rises b) (hsa : ∀ q ∈ a, q.2.length ≤ 1000) (hsb : ∀ q ∈ b, q.2.length ≤ 1000) (hna : na ≤ 1000) (hnb : nb ≤ 1000) :
    Calls Tryz.prog 15 #[.slice Aa na ca, .slice Ab nb cb] w fun e w' =>
      ∃ A n c, e = .returned (.slice A n c) ∧ NdOn w' A n (mergeS a b) ∧ Below w.heap.size w w' := by
  have Hend : Hid ((b.take nb).foldl (fun l n => putN n false l) a = mergeS a b) := hide (by rw [List.take_of_length_le (by have := hb.len; omega)]; exact fold_merge hra hrb)
  have Hst := hide (fun i q (h : b[i]? = some q) => fold_step h a)
  have Hold := hide (fun k y q (hk : b[k]? = some y) => @fold_old a b hrb k y q hk)
  generalize mergeS a b = M at *
  clear hra hrb
  go_enter Tryz.func15, Tryz.ntmps15
  go_wp2
  go_loopw [0, 5] (fun u v wr => ∃ (i m : Nat) (A1 : Option Addr) (c1 : Nat), i ≤ nb ∧ v = .int .i64 (i : Int) ∧ u = .slice A1 m c1 ∧ NdOn wr A1 m ((b.take i).foldl (fun l n => putN n false l) a) ∧ Hid (m ≤ na + i) ∧ Below w.heap.size w wr) (fun _ v _ => nb - (RowKit.intOf v).toNat)
  case atStart => exact ⟨0, na, Aa, ca, by omega, rfl, rfl, ha, hide (by omega), Below.refl _ _⟩
  case round =>
    obtain ⟨i, m, A1, c1, hi, rfl, rfl, hN, hm, hbw⟩ := hrel
    by_cases hlt : i < nb
    · obtain ⟨ad, q, A', n', c', rfl, hbl, hq, ht, p1, p2⟩ := NdIn.at_ (NdIn.below hb hbw) hlt
      have hbs := hbw.size
      have hstep := Hst.out i q hq
      have hq1 := hsb q (List.mem_of_getElem? hq)
      have ho := Hold.out i q
      obtain ⟨nm, s⟩ := q
      simp only [] at p1 p2 ht hq1
      have htl := ht.1
      have HP := hide (refPut_any _ nm s A1 A' m c1 n' c' wr hN (ht.more hbs) (fun q' hq' e => hsa q' (ho q' hq hq' e.symm)) (by omega) (by have := hm.out; omega))
      have hpl := put_len_le (nm, s) false ((b.take i).foldl (fun l n => putN n false l) a)
      rw [← hstep] at HP hpl
      have hl0 := hN.len
      rw [hl0] at hpl
      have hmo := hm.out
      have Hpl := hide (show ((b.take (i + 1)).foldl (fun l n => putN n false l) a).length ≤ na + (i + 1) by omega)
      obtain ⟨L2, hL2⟩ : ∃ L2, L2 = (b.take (i + 1)).foldl (fun l n => putN n false l) a := ⟨_, rfl⟩
      rw [← hL2] at HP Hpl
      have HL2 := hide hL2
      clear hL2
      clear hq ht hN ho hstep hpl hl0 hmo hm
      go_wp2_with (go_at_call 33
                   refine HP.out.mono ?_
                   rintro e w2 ⟨A2, m2, c2, rfl, hN2, hb2⟩)
      go_roundw
      case rel => exact ⟨i + 1, m2, A2, c2, by omega, by go_num, rfl, by rw [← HL2.out]; exact hN2, hide (by rw [← hN2.len]; exact Hpl.out), hbw.trans (hb2.mono hbs)⟩
      case measure => simp [RowKit.intOf]; omega
    · have hi2 : i = nb := by omega
      subst hi2
      rw [Hend.out] at hN
      go_wp2
      go_ret
      exact ⟨A1, m, c1, rfl, hN, hbw⟩
end Go.Proofs.YtmcpdcfeappokaaGreatDoor.Need
