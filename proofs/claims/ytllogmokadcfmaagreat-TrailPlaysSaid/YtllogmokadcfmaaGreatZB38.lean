/-
  Some texts of this claim, one behind the other: TrailRef1, TrailRef2, TrailRef3, TrailRef7. What each proves, and its condition, stands at its head.
-/
import Derived.Test.YtllogmokadcfmaaGreatZB25
import Derived.Test.YtllogmokadcfmaaGreatZB20
import Derived.Test.YtllogmokadcfmaaGreatZB32
import Derived.Test.YtllogmokadcfmaaGreatZB3
import Derived.Test.YtllogmokadcfmaaGreatZB23
import Derived.Test.YtllogmokadcfmaaGreatZB29
import Derived.Deep.RegionHeld3
/-
  The contracts of the document's own KnowAt and Know: what is known of a name by the first entries, or by all. Condition: at most 100 entries, whose sets may be and are short.
-/
namespace Go.Proofs.YtllogmokadcfmaaGreat.Trail
open Go Go.RowKit Go.Lib Go.Proofs.YtllogmokadcfmaaGreat.Span Go.Proofs.YtllogmokadcfmaaGreat.Need Go.Proofs.YtllogmokadcfmaaGreat.Mani Go.Proofs.YtllogmokadcfmaaGreat.Grow Go.Proofs.YtllogmokadcfmaaGreat.Term
set_option linter.unusedVariables false
def TellsTm (w : World) (t : Tm) (e : Ending) (w' : World) : Prop :=
  ∃ A n c, e = .returned (.agg #[.string t.name, .slice A n c, .bool t.none]) ∧ InS w' 0 A n t.set ∧ Below w.heap.size w w'
theorem refAllT_any (w : World) :
    Calls Tryz.prog 49 #[] w fun e w' => ∃ A' m c', e = .returned (.slice A' m c') ∧ InS w' 0 A' m allS ∧ Below w.heap.size w w' := by
  have hrd := hide (spIn_of_reads (reads_one w 0 1000000000 _ rfl))
  go_enter Tryz.func49, Tryz.ntmps49
  go_wp2
  go_ret
  exact ⟨_, _, _, rfl, ⟨(hrd.out).more (by simp), fun ad hA _ => by injection hA with hA; subst hA; exact .inr ⟨_, _, heap_alloc_new w _⟩⟩, (Below.refl _ _).alloc (Nat.le_refl _) _⟩
theorem cell_regE {w : World} {p : Addr} {v : Value} (h : w.cell? p = some v) (hp : p.block < w.heap.size) (d : Nat) (os : Array Obj) : (Sort.grow (redrawn w d) os).cell? p = some v :=
  ((below_regrown w d os).cell hp).trans h
set_option maxHeartbeats 8000000 in
set_option maxRecDepth 100000 in
theorem refKnowAt_any (B : Nat) (l : List Ent) (A : Option Addr) (n c lv : Nat) (k : Int) (nm : ByteArray) (w : World) (h : EnR 87 w B A n l) (hs : SmallE l) (hn : n ≤ 100) :
    Calls Tryz.prog 23 #[.agg #[.slice A n c, .int .i64 (lv : Int)], .int .i64 k, .string nm] w (TellsTm w (knowL (l.take k.toNat) nm)) := by
  unfold TellsTm
  have hlen := h.len
  have HA := hide (fun (wx : World) => refAllT_any wx)
  obtain ⟨R, hR⟩ : ∃ R, R = knowL (l.take k.toNat) nm := ⟨_, rfl⟩
  rw [← hR]
  have HR := hide hR
  have Hlen := hide hlen
  clear hR hlen
  obtain ⟨W, hW⟩ : ∃ W, W = (w.alloc (.cells #[.slice A n c, .int .i64 (lv : Int)] 34)).alloc (.cells #[.string ⟨#[]⟩, .slice none 0 0, .bool false] 38) := ⟨_, rfl⟩
  have hbW : Below w.heap.size w W := by rw [hW]; exact ((Below.refl _ _).alloc (Nat.le_refl _) _).alloc (by simp) _
  have BX : Blk W w.heap.size 34 #[.slice A n c, .int .i64 (lv : Int)] := by rw [hW]; exact (Blk.new w _ _).alloc _
  have BR : Blk W (w.heap.size + 1) 38 #[.string ⟨#[]⟩, .slice none 0 0, .bool false] := by
    rw [hW]
    have := Blk.new (w.alloc (.cells #[.slice A n c, .int .i64 (lv : Int)] 34)) 38 #[.string ⟨#[]⟩, .slice none 0 0, .bool false]
    rwa [World.size_alloc] at this
  have hsW : W.heap.size = w.heap.size + 2 := by rw [hW]; simp
  have HsW := hide hsW
  clear hsW
  go_enter Tryz.func23, Tryz.ntmps23
  go_upto_region 1 with fail
  rw [← hW]
  clear hW
  go_upto_region 2 with (first
    | (go_at_call 49
       refine (HA.out W).mono ?_
       rintro e w1 ⟨A1, n1, c1, rfl, h1, hb1⟩))
  have BX1 := BX.below hb1 BX.lt
  have BR1 := BR.below hb1 BR.lt
  have hbw1 := hbW.trans (hb1.mono hbW.size)
  have hI1 : InS w1 0 A1 n1 allS := h1
  have hs1 : w.heap.size + 2 ≤ w1.heap.size := by have := hb1.size; have := HsW.out; omega
  have BO := Blk.new w1 38 #[.string nm, .slice A1 n1 c1, .bool true]
  have BX2 := BX1.alloc (.cells #[.string nm, .slice A1 n1 c1, .bool true] 38)
  have BR2 := BR1.alloc (.cells #[.string nm, .slice A1 n1 c1, .bool true] 38)
  have hbw2 := hbw1.alloc hbw1.size (.cells #[.string nm, .slice A1 n1 c1, .bool true] 38)
  have hI2 : InS (w1.alloc (.cells #[.string nm, .slice A1 n1 c1, .bool true] 38)) 0 A1 n1 allS := hI1.below (alloc_b _)
  clear BX BR BX1 BR1 hbW hb1 hbw1 hI1 h1 HA
  generalize w1.alloc (.cells #[.string nm, .slice A1 n1 c1, .bool true] 38) = W2 at *
  generalize w1.heap.size = bo at *
  go_wp2
  go_loopw [8] (fun v wr => ∃ (i : Nat) (t : Tm) (A2 : Option Addr) (n2 c2 : Nat), i ≤ n ∧ (i : Int) ≤ max k 0 ∧ v = .int .i64 (i : Int) ∧ Hid (t = knowL (l.take i) nm) ∧ t.name = nm ∧ Blk wr bo 38 #[.string t.name, .slice A2 n2 c2, .bool t.none] ∧ InS wr 0 A2 n2 t.set ∧
      Blk wr w.heap.size 34 #[.slice A n c, .int .i64 (lv : Int)] ∧ Blk wr (w.heap.size + 1) 38 #[.string ⟨#[]⟩, .slice none 0 0, .bool false] ∧ Below w.heap.size w wr) (fun v _ => n - (RowKit.intOf v).toNat)
  case atStart => exact ⟨0, ⟨nm, allS, true⟩, A1, n1, c1, by omega, by omega, rfl, hide rfl, rfl, BO, hI2, BX2, BR2, hbw2⟩
  case round =>
    obtain ⟨i, t, A2, n2, c2, hi, hik, rfl, ht, hnm, bo2, hI, bx, br, hb⟩ := hrel
    clear BO hI2 BX2 BR2 hbw2
    obtain ⟨tn, ts, tz⟩ := t
    simp only [] at hnm bo2 hI
    subst hnm
    have x0 := (bx.cell 0).trans (show (#[.slice A n c, .int .i64 (lv : Int)] : Array Value)[0]? = some (.slice A n c) from rfl)
    have y0 := (bo2.cell 0).trans (show (#[.string tn, .slice A2 n2 c2, .bool tz] : Array Value)[0]? = some (.string tn) from rfl)
    have y1 := (bo2.cell 1).trans (show (#[.string tn, .slice A2 n2 c2, .bool tz] : Array Value)[1]? = some (.slice A2 n2 c2) from rfl)
    have y2 := (bo2.cell 2).trans (show (#[.string tn, .slice A2 n2 c2, .bool tz] : Array Value)[2]? = some (.bool tz) from rfl)
    have hbs := hb.size
    by_cases hlt : i < n
    · by_cases hlk : (i : Int) < k
      · obtain ⟨ad, q, A', n', c', rfl, hbl, hx, hq, e0, e1, e2, e3, e4⟩ := EnR.at_ (h.on hb) hlt
        have hsq := hs q (List.mem_of_getElem? hx)
        have hkt := know_take hx tn
        have hl2 := know_len_at hs tn (k := i)
        rw [← ht.out] at hl2 hkt
        simp only [] at hl2
        obtain ⟨⟨qn, qs, qz⟩, ql, qc⟩ := q
        simp only [] at hq e0 e1 e2 e3 e4 hsq hkt hl2
        have i1 : (0 : Int) ≤ (i : Int) := by omega
        have i2 : (i : Int) < (n : Int) := by omega
        have hi3 : ((i + 1 : Nat) : Int) ≤ max k 0 := by omega
        have Hkt := hide hkt
        clear hkt hx
        by_cases hqn : qn = tn
        · have hqe : (qn.toList == tn.toList) = true := by rw [hqn]; exact beq_self_eq_true _
          have Hk2 : Hid (knowL (l.take (i + 1)) tn = ⟨tn, meetS ts qs, tz && qz⟩) := hide (by rw [Hkt.out, if_pos hqn, meet_same (by simp [hqn])])
          have HM := hide (fun (wx : World) (hbx : Below wr.heap.size wr wx) => refMeetT_any tn qn ts qs tz qz A2 A' n2 c2 n' c' wx (SpOn.on hI.1 hbx) (SpOn.on hq.1 hbx) (by have := hI.1.1; have := Hlen.out; omega) (by have := hq.1.1; have := hsq.2; omega))
          unfold MakesT at HM
          have eM : meetT ⟨tn, ts, tz⟩ ⟨qn, qs, qz⟩ = ⟨tn, meetS ts qs, tz && qz⟩ := meet_same (by simp [hqn])
          rw [eM] at HM
          clear eM Hkt hqn
          generalize meetS ts qs = ms at *
          generalize (tz && qz) = mz at *
          go_upto_region 6 with fail
          have r0 := cell_regE y0 bo2.lt
          have r1 := cell_regE y1 bo2.lt
          have r2 := cell_regE y2 bo2.lt
          have rx := cell_regE x0 bx.lt
          have s0 := cell_regE e0 (by simp only [block_of_add]; exact hbl)
          have s1 := cell_regE e1 (by simp only [block_of_add]; exact hbl)
          have s2 := cell_regE e2 (by simp only [block_of_add]; exact hbl)
          refine wp_region_grow_w [(40, tmR wr.heap.size ⟨tn, ms, mz⟩)] [40] 8 (storesT bo wr.heap.size ⟨tn, ms, mz⟩) _
            (by kernel_rfl) (by kernel_rfl) rfl (by kernel_rfl) (by kernel_rfl) (by kernel_rfl) rfl rfl (by kernel_rfl) (by kernel_rfl) ⟨tmR_stable _ _, trivial⟩ ?_
          repeat (first
            | (refine lexK_quiet (by decide) rfl rfl rfl (fun K hK => ?_); unfold Reg; go_big_quiet_op; refine hK _ ?_; clear hK K)
            | (refine lexK_rel (by decide) rfl rfl (fun w' hb9 hK => ?_) (fun vv w' hb9 hv => ?_)
               · unfold grows
                 go_simp
                 go_at_call 58
                 refine (HM.out w' hb9).mono ?_
                 rintro e w8 ⟨A8, n8, c8, rfl, h8, hb8⟩
                 exact ⟨_, rfl, hb8, A8, n8, c8, rfl, h8.less (by have := hb9.size; omega)⟩
               obtain ⟨A6, n6, c6, rfl, hN6⟩ := hv
               simp only [Act.put, List.setIfInBounds_toArray, List.set_cons_zero, List.set_cons_succ])
            | (refine lexK_wr rfl rfl (fun w' hb9 hK => ?_) (fun vv w' w'' hb9 hv => ?_)
               · obtain ⟨A4, n4, c4, e4, hN4⟩ := hK.at_ 40 rfl (agg_d _)
                 have bk9 := bo2.below hb9 bo2.lt
                 have k0 := bk9.cell 0
                 have k1 := bk9.cell 1
                 have k2 := bk9.cell 2
                 have f0 := bk9.frozen 0
                 have f1 := bk9.frozen 1
                 have f2 := bk9.frozen 2
                 unfold grows
                 go_simp
                 have e5 : Value.agg #[.string tn, .slice A6 n6 c6, .bool mz] = .agg #[.string tn, .slice A4 n4 c4, .bool mz] := e4
                 have e6 := agg_inj e5
                 obtain ⟨e7, e8, e9⟩ := e6
                 subst e7 e8 e9
                 exact ⟨_, _, _, hN4, rfl⟩
               simp only [Act.put]))
          refine lexK_nil (fun w9 w1 vv hC9 hall hS _ => ?_)
          have hb9 := reg_iff.1 hC9
          obtain ⟨A5, n5, c5, hN5, rfl⟩ := hS
          have hbz := hb9.size
          have hst := stored_blk (bo2.below hb9 bo2.lt) rfl hN5 bo2.lt
          have hgs : w1.grownBy (((w1.setCell ⟨bo, 0, none⟩ (.string tn)).setCell ⟨bo, 1, none⟩ (.slice A5 n5 c5)).setCell ⟨bo, 2, none⟩ (.bool mz)) (some bo) := only_setCell (p := ⟨bo, 2, none⟩) (only_setCell (p := ⟨bo, 1, none⟩) (only_setCell (p := ⟨bo, 0, none⟩) (only_self w1 bo) (.inl rfl) _) (.inl rfl) _) (.inl rfl) _
          have bx9 := (bx.below hb9 bx.lt).grown hgs (fun e => by injection e with e; have := hs1; omega)
          have br9 := (br.below hb9 br.lt).grown hgs (fun e => by injection e with e; have := hs1; omega)
          have hbw9 : Below w.heap.size w (((w1.setCell ⟨bo, 0, none⟩ (.string tn)).setCell ⟨bo, 1, none⟩ (.slice A5 n5 c5)).setCell ⟨bo, 2, none⟩ (.bool mz)) := (hb.trans (hb9.mono hbs)).grown hgs (by have := hbs; omega) (fun j hj => by injection hj with hj; omega)
          have hI9 : InS (((w1.setCell ⟨bo, 0, none⟩ (.string tn)).setCell ⟨bo, 1, none⟩ (.slice A5 n5 c5)).setCell ⟨bo, 2, none⟩ (.bool mz)) 0 A5 n5 ms := InS.of_new hst.2
          clear hall r0 r1 r2 rx s0 s1 s2 HM hN5
          go_wp2
          go_roundw
          case rel => exact ⟨i + 1, ⟨tn, ms, mz⟩, A5, n5, c5, by omega, hi3, by go_num, hide Hk2.out.symm, rfl, hst.1, hI9, bx9, br9, hbw9⟩
          case measure => simp [RowKit.intOf]; omega
        · have hqe : (qn.toList == tn.toList) = false := by rw [eq_names]; exact decide_eq_false hqn
          have Hk2 : Hid (knowL (l.take (i + 1)) tn = ⟨tn, ts, tz⟩) := hide (by rw [Hkt.out, if_neg hqn])
          clear hqn Hkt
          go_wp2
          go_roundw
          case rel => exact ⟨i + 1, ⟨tn, ts, tz⟩, A2, n2, c2, by omega, hi3, by go_num, hide Hk2.out.symm, rfl, bo2, hI, bx, br, hb⟩
          case measure => simp [RowKit.intOf]; omega
      · have E : Hid (R = ⟨tn, ts, tz⟩) := hide (by rw [HR.out, ht.out]; congr 2; omega)
        have k0 := y0
        have k1 := y1
        have k2 := y2
        have z0 := br.cell 0
        have z1 := br.cell 1
        have z2 := br.cell 2
        have f0 := br.frozen 0
        have f1 := br.frozen 1
        have f2 := br.frozen 2
        have hblk := stored_row (u := .string tn) (v := .slice A2 n2 c2) (x := .bool tz) br rfl
        have hgs : wr.grownBy (((wr.setCell ⟨w.heap.size + 1, 0, none⟩ (.string tn)).setCell ⟨w.heap.size + 1, 1, none⟩ (.slice A2 n2 c2)).setCell ⟨w.heap.size + 1, 2, none⟩ (.bool tz)) (some (w.heap.size + 1)) := only_setCell (p := ⟨w.heap.size + 1, 2, none⟩) (only_setCell (p := ⟨w.heap.size + 1, 1, none⟩) (only_setCell (p := ⟨w.heap.size + 1, 0, none⟩) (only_self wr (w.heap.size + 1)) (.inl rfl) _) (.inl rfl) _) (.inl rfl) _
        have hIr := insFarB hI (farT_blk br (by decide)) (fun r _ => Nat.zero_le _) hgs
        go_wp2
        refine bodyPost_ret (results_cell_row rfl _ _ (w.heap.size + 1) 38 _ (0, 0) _ rfl hblk Tryz.underlying38 rfl rfl) rfl ?_
        rw [E.out]
        first | exact ⟨A2, n2, c2, rfl, hIr, three_b hb (by omega) _ _ _⟩ | exact ⟨A2, n2, ⟨c2, rfl⟩, hIr, three_b hb (by omega) _ _ _⟩
    · have E : Hid (R = ⟨tn, ts, tz⟩) := hide (by rw [HR.out, ht.out, List.take_of_length_le (by have := Hlen.out; omega), List.take_of_length_le (by have := Hlen.out; omega)])
      have k0 := y0
      have k1 := y1
      have k2 := y2
      have z0 := br.cell 0
      have z1 := br.cell 1
      have z2 := br.cell 2
      have f0 := br.frozen 0
      have f1 := br.frozen 1
      have f2 := br.frozen 2
      have hblk := stored_row (u := .string tn) (v := .slice A2 n2 c2) (x := .bool tz) br rfl
      have hgs : wr.grownBy (((wr.setCell ⟨w.heap.size + 1, 0, none⟩ (.string tn)).setCell ⟨w.heap.size + 1, 1, none⟩ (.slice A2 n2 c2)).setCell ⟨w.heap.size + 1, 2, none⟩ (.bool tz)) (some (w.heap.size + 1)) := only_setCell (p := ⟨w.heap.size + 1, 2, none⟩) (only_setCell (p := ⟨w.heap.size + 1, 1, none⟩) (only_setCell (p := ⟨w.heap.size + 1, 0, none⟩) (only_self wr (w.heap.size + 1)) (.inl rfl) _) (.inl rfl) _) (.inl rfl) _
      have hIr := insFarB hI (farT_blk br (by decide)) (fun r _ => Nat.zero_le _) hgs
      go_wp2
      refine bodyPost_ret (results_cell_row rfl _ _ (w.heap.size + 1) 38 _ (0, 0) _ rfl hblk Tryz.underlying38 rfl rfl) rfl ?_
      rw [E.out]
      first | exact ⟨A2, n2, c2, rfl, hIr, three_b hb (by omega) _ _ _⟩ | exact ⟨A2, n2, ⟨c2, rfl⟩, hIr, three_b hb (by omega) _ _ _⟩
end Go.Proofs.YtllogmokadcfmaaGreat.Trail
/-
  The contracts of the document's own Know and put: what is known of a name by all entries; one more entry behind a copy of those that stand there. Condition: at most 100 entries, whose sets may be and are short.
-/
namespace Go.Proofs.YtllogmokadcfmaaGreat.Trail
open Go Go.RowKit Go.Lib Go.Proofs.YtllogmokadcfmaaGreat.Span Go.Proofs.YtllogmokadcfmaaGreat.Need Go.Proofs.YtllogmokadcfmaaGreat.Mani Go.Proofs.YtllogmokadcfmaaGreat.Grow Go.Proofs.YtllogmokadcfmaaGreat.Term
set_option linter.unusedVariables false
set_option maxHeartbeats 8000000 in
set_option maxRecDepth 100000 in
theorem refKnow_any (B : Nat) (l : List Ent) (A : Option Addr) (n c lv : Nat) (nm : ByteArray) (w : World) (h : EnR 87 w B A n l) (hs : SmallE l) (hn : n ≤ 100) :
    Calls Tryz.prog 53 #[.agg #[.slice A n c, .int .i64 (lv : Int)], .string nm] w (TellsTm w (knowL l nm)) := by
  have hlen := h.len
  have HK := hide (fun (wx : World) (hbx : Below w.heap.size w wx) => refKnowAt_any B l A n c lv (n : Int) nm wx (h.on hbx) hs hn)
  unfold TellsTm at *
  have et : l.take (n : Int).toNat = l := List.take_of_length_le (by omega)
  rw [et] at HK
  clear h hs hlen et
  obtain ⟨W, hW⟩ : ∃ W, W = (w.alloc (.cells #[.slice A n c, .int .i64 (lv : Int)] 34)).alloc (.cells #[.string ⟨#[]⟩, .slice none 0 0, .bool false] 38) := ⟨_, rfl⟩
  have hbW : Below w.heap.size w W := by rw [hW]; exact ((Below.refl _ _).alloc (Nat.le_refl _) _).alloc (by simp) _
  have BX : Blk W w.heap.size 34 #[.slice A n c, .int .i64 (lv : Int)] := by rw [hW]; exact (Blk.new w _ _).alloc _
  have BR : Blk W (w.heap.size + 1) 38 #[.string ⟨#[]⟩, .slice none 0 0, .bool false] := by
    rw [hW]
    have := Blk.new (w.alloc (.cells #[.slice A n c, .int .i64 (lv : Int)] 34)) 38 #[.string ⟨#[]⟩, .slice none 0 0, .bool false]
    rwa [World.size_alloc] at this
  have x0 := (BX.cell 0).trans (show (#[.slice A n c, .int .i64 (lv : Int)] : Array Value)[0]? = some (.slice A n c) from rfl)
  have x1 := (BX.cell 1).trans (show (#[.slice A n c, .int .i64 (lv : Int)] : Array Value)[1]? = some (.int .i64 (lv : Int)) from rfl)
  go_enter Tryz.func53, Tryz.ntmps53
  go_upto_region 1 with fail
  rw [← hW]
  clear hW
  go_wp2_with (first
    | (go_at_call 23
       refine (HK.out W hbW).mono ?_
       rintro e w1 ⟨A1, n1, c1, rfl, h1, hb1⟩
       have br := BR.below hb1 BR.lt
       have hb := hbW.trans (hb1.mono hbW.size)
       have z0 := br.cell 0
       have z1 := br.cell 1
       have z2 := br.cell 2
       have f0 := br.frozen 0
       have f1 := br.frozen 1
       have f2 := br.frozen 2))
  have hblk := stored_row (u := .string (knowL l nm).name) (v := .slice A1 n1 c1) (x := .bool (knowL l nm).none) br rfl
  have hgs : w1.grownBy (((w1.setCell ⟨w.heap.size + 1, 0, none⟩ (.string (knowL l nm).name)).setCell ⟨w.heap.size + 1, 1, none⟩ (.slice A1 n1 c1)).setCell ⟨w.heap.size + 1, 2, none⟩ (.bool (knowL l nm).none)) (some (w.heap.size + 1)) := only_setCell (p := ⟨w.heap.size + 1, 2, none⟩) (only_setCell (p := ⟨w.heap.size + 1, 1, none⟩) (only_setCell (p := ⟨w.heap.size + 1, 0, none⟩) (only_self w1 (w.heap.size + 1)) (.inl rfl) _) (.inl rfl) _) (.inl rfl) _
  have hIr := insFarB h1 (farT_blk br (by decide)) (fun r _ => Nat.zero_le _) hgs
  refine bodyPost_ret (results_cell_row rfl _ _ (w.heap.size + 1) 38 _ (0, 0) _ rfl hblk Tryz.underlying38 rfl rfl) rfl ?_
  first | exact ⟨A1, n1, c1, rfl, hIr, three_b hb (by omega) _ _ _⟩ | exact ⟨A1, n1, ⟨c1, rfl⟩, hIr, three_b hb (by omega) _ _ _⟩
theorem below_noneE {w w' : World} (h : w.grownBy w' none) : Below w.heap.size w w' := ⟨h.os, h.tape, h.output, h.size, fun i hi => h.block i hi (by simp)⟩
theorem ent_one (nm : ByteArray) (A : Option Addr) (n c : Nat) (z : Bool) (lv cz : Int) : ∀ u ∈ ens [(nm, .slice A n c, z, lv, cz)], u.oneCell' = true := ens_one _ fun r hr => by
  rw [List.mem_singleton.1 hr]
  exact ⟨A, n, c, rfl⟩
def PutsE (w : World) (g B : Nat) (l : List Ent) (lv : Nat) (e : Ending) (w' : World) : Prop :=
  e = .returned (.tuple #[]) ∧ ∃ A c, Blk w' g 34 #[.slice A l.length c, .int .i64 (lv : Int)] ∧ EnR 87 w' B A l.length l ∧ w.grownBy w' (some g)
theorem info_entryR : (Tryz.prog.info? 87).map (fun i => (i.zero, i.size, i.bytes)) = some (some (.agg #[.string ByteArray.empty, .slice none 0 0, .bool false, .int .i64 0, .int .i64 0]), 5, 64) := by kernel_rfl
set_option maxHeartbeats 8000000 in
set_option maxRecDepth 100000 in
theorem refPutE_any (g B : Nat) (l : List Ent) (A : Option Addr) (n c lv : Nat) (t : Tm) (A2 : Option Addr) (n2 c2 : Nat) (cz : Int) (w : World) (hx : Blk w g 34 #[.slice A n c, .int .i64 (lv : Int)]) (h : EnR 87 w B A n l) (ht : InS w B A2 n2 t.set) (hn : n ≤ 1000) (hB : B ≤ g) :
    Calls Tryz.prog 63 #[.pointer (some ⟨g, 0, none⟩), .agg #[.string t.name, .slice A2 n2 c2, .bool t.none], .int .i64 cz] w (PutsE w g B (l ++ [⟨t, lv, cz⟩]) lv) := by
  obtain ⟨tn, ts, tz⟩ := t
  simp only [] at ht ⊢
  have hlen := h.len
  obtain ⟨i0, hi0, hz0, hz1, hz2⟩ := info_parts info_entryR
  have hgw := hx.lt
  obtain ⟨W, hW⟩ : ∃ W, W = w.alloc (.cells #[.string tn, .slice A2 n2 c2, .bool tz] 38) := ⟨_, rfl⟩
  have hbW : Below w.heap.size w W := by rw [hW]; exact alloc_b _
  have bt : Blk W w.heap.size 38 #[.string tn, .slice A2 n2 c2, .bool tz] := by rw [hW]; exact Blk.new _ _ _
  have bx := hx.below hbW hgw
  have h1 := h.on hbW
  have ht1 := ht.below hbW
  have hsW := hbW.size
  obtain ⟨rs, g1, g2, g3⟩ := h1
  have hone := ens_one rs g2.slices
  have x0 := (bx.cell 0).trans (show (#[.slice A n c, .int .i64 (lv : Int)] : Array Value)[0]? = some (.slice A n c) from rfl)
  have hnil : W.ownsRow W.heap.size 87 5 (.slice none 0 0) 0 (ens []) := World.ownsRow_nil W _ _ 5
  clear hx h ht
  go_enter Tryz.func63, Tryz.ntmps63
  go_upto_region 1 with fail
  try rw [← hW]
  clear hW
  go_upto_region 3 with (first
    | (at_builtin
       refine wpList_append_any _ rfl (.tmp 7) (.tmp 11) _ rfl W.heap.size 87 i0 _ 5 64 Tryz.underlying32 hi0 hz0 hz1 hz2 rfl (by omega) _ 0 (ens []) rfl hnil
         _ _ n _ _ rfl g1 hone (by unfold maxLen; omega) (by omega) (Nat.le_refl _) ?_
       intro v1 w1 hown1 hg1 _))
  have k1 : Ens 87 w1 B W.heap.size v1 n rs l := ⟨by rw [Nat.zero_add] at hown1; exact hown1, g2.mono fun _ _ _ hs => insFarB hs (fun b cur m h e => by cases e) (fun r e => by cases e) hg1⟩
  have hb1 : Below W.heap.size W w1 := below_noneE hg1
  have bx1 := bx.below hb1 bx.lt
  have bt1 := bt.below hb1 bt.lt
  have ht2 := ht1.below hb1
  have hs1 := hb1.size
  have hbw1 := hbW.trans (hb1.mono hsW)
  clear hown1 hg1 g1 g2 g3 hone hnil x0 bx bt ht1 hb1
  have y1 := (bx1.cell 1).trans (show (#[.slice A n c, .int .i64 (lv : Int)] : Array Value)[1]? = some (.int .i64 (lv : Int)) from rfl)
  have q0 := (bt1.cell 0).trans (show (#[.string tn, .slice A2 n2 c2, .bool tz] : Array Value)[0]? = some (.string tn) from rfl)
  have q1 := (bt1.cell 1).trans (show (#[.string tn, .slice A2 n2 c2, .bool tz] : Array Value)[1]? = some (.slice A2 n2 c2) from rfl)
  have q2 := (bt1.cell 2).trans (show (#[.string tn, .slice A2 n2 c2, .bool tz] : Array Value)[2]? = some (.bool tz) from rfl)
  go_region_law (
    refine step_append_any rfl (.tmp 13) (.tmp 21) _ rfl W.heap.size 87 i0 _ 5 64 Tryz.underlying32 hi0 hz0 hz1 hz2 rfl (by omega) _ n (ens rs) rfl
      (own_below k1.1 ?_) _ _ 1 _ _ rfl (reads_ent _ tn A2 n2 c2 tz (lv : Int) cz _ _ ?_) (ent_one _ _ _ _ _ _ _) ?_ ?_ ?_ ?_
    · exact (below_drewN (Below.refl _ _) _).alloc (Nat.le_refl _) _
    · rfl
    · unfold maxLen; omega
    · omega
    · simp; omega
    intro v2 w2 hown2 hg2 _)
  all_goals (
    have hlo := fun k hk => (k1.1.lt k hk).1
    have k2 : Ens 87 w2 B W.heap.size v2 (n + 1) _ (l ++ [⟨⟨tn, ts, tz⟩, lv, cz⟩]) := Ens.cat (k1.below ((below_drewN (Below.refl _ _) _).alloc (Nat.le_refl _) _)) (by decide) (by omega) (AllE.one (ht2.below ((below_drewN (Below.refl _ _) _).alloc (Nat.le_refl _) _))) hown2 hg2
    have hb2 : Below w.heap.size w w2 := (hbw1.trans (((below_drewN (Below.refl w1.heap.size w1) _).alloc (Nat.le_refl _) _).mono (by omega))).grown hg2 (by simp; omega) (fun k hk => Nat.le_trans hsW (hlo k hk))
    have bx2 : Blk w2 g 34 #[.slice A n c, .int .i64 (lv : Int)] := (bx1.below ((below_drewN (Below.refl _ _) _).alloc (Nat.le_refl _) _) bx1.lt).grown hg2 (fun e => by have := hlo _ e.symm; omega)
    obtain ⟨A3, c3, rfl, hc3, hR3⟩ := k2.told (by omega)
    clear k1 k2 hown2 hg2 y1 q0 q1 q2 bt1 ht2 hlo
    have y0 := bx2.cell 0
    have f0 := bx2.frozen 0
    have hblk := bx2.set_ 0 (.slice A3 (n + 1) c3)
    have hgs := only_setCell (p := ⟨g, 0, none⟩) (only_self w2 g) (.inl rfl) (.slice A3 (n + 1) c3)
    have hRf := hR3.far (farT_blk bx2 (by decide)) (farT_blk bx2 (by decide)) (fun r e => by injection e with e; omega) hgs
    have hl1 : (l ++ [(⟨⟨tn, ts, tz⟩, lv, cz⟩ : Ent)]).length = n + 1 := by simp [hlen]
    go_wp2_with fail
    refine bodyPost_ret (results_none rfl _ _ _) rfl ?_
    refine ⟨rfl, A3, c3, ?_, ?_, only_setCell (p := ⟨g, 0, none⟩) (only_of_below hb2 g) (.inl rfl) _⟩
    · rw [hl1]; exact hblk
    · rw [hl1]; exact hRf)
end Go.Proofs.YtllogmokadcfmaaGreat.Trail
/-
  The contract of the document's own Back: what stands up to a level is left. Condition: at most 1000 entries.
-/
namespace Go.Proofs.YtllogmokadcfmaaGreat.Trail
open Go Go.RowKit Go.Lib Go.Proofs.YtllogmokadcfmaaGreat.Span Go.Proofs.YtllogmokadcfmaaGreat.Need Go.Proofs.YtllogmokadcfmaaGreat.Mani Go.Proofs.YtllogmokadcfmaaGreat.Grow Go.Proofs.YtllogmokadcfmaaGreat.Term
set_option linter.unusedVariables false
theorem upTo_take {l : List Ent} {i : Nat} {q : Ent} (h : l[i]? = some q) (K : Nat) : upTo (l.take (i + 1)) K = if q.level ≤ K then upTo (l.take i) K ++ [q] else upTo (l.take i) K := by
  rw [List.take_add_one, h]
  unfold upTo
  rw [List.filter_append]
  by_cases g : q.level ≤ K <;> simp [g]
def BacksE (w : World) (g B : Nat) (x : Tr) (e : Ending) (w' : World) : Prop :=
  e = .returned (.tuple #[]) ∧ ∃ A c, Blk w' g 34 #[.slice A x.l.length c, .int .i64 (x.level : Int)] ∧ EnR 87 w' B A x.l.length x.l ∧ w.grownBy w' (some g)
set_option maxHeartbeats 8000000 in
set_option maxRecDepth 100000 in
theorem refBackE_any (g B : Nat) (x : Tr) (A : Option Addr) (n c : Nat) (k : Int) (w : World) (hx : Blk w g 34 #[.slice A n c, .int .i64 (x.level : Int)]) (h : EnR 87 w B A n x.l) (hn : n ≤ 1000) (hB : B ≤ g) :
    Calls Tryz.prog 29 #[.pointer (some ⟨g, 0, none⟩), .int .i64 k] w (BacksE w g B (backT x k)) := by
  obtain ⟨l, lv⟩ := x
  simp only [] at hx h
  have hlen := h.len
  obtain ⟨i0, hi0, hz0, hz1, hz2⟩ := info_parts info_entryR
  have hgw := hx.lt
  obtain ⟨K, hK⟩ : ∃ K : Nat, K = (max k 0).toNat := ⟨_, rfl⟩
  have Hm : Hid (max k 0 = (K : Int)) := hide (by rw [hK]; omega)
  have x0 := (hx.cell 0).trans (show (#[.slice A n c, .int .i64 (lv : Int)] : Array Value)[0]? = some (.slice A n c) from rfl)
  have x1 := (hx.cell 1).trans (show (#[.slice A n c, .int .i64 (lv : Int)] : Array Value)[1]? = some (.int .i64 (lv : Int)) from rfl)
  have HR : Hid (backT ⟨l, lv⟩ k = if lv ≤ K then ⟨l, lv⟩ else ⟨upTo l K, K⟩) := hide (by unfold backT; rw [← hK])
  clear hK
  generalize backT ⟨l, lv⟩ k = R at *
  go_enter Tryz.func29, Tryz.ntmps29
  go_upto_region 1 with fail
  rw [Hm.out]
  clear Hm
  by_cases hle : lv ≤ K
  · have hle' : (K : Int) ≥ (lv : Int) := by omega
    have E : Hid (R = ⟨l, lv⟩) := hide (by rw [HR.out, if_pos hle])
    clear HR
    go_wp2
    refine bodyPost_ret (results_none rfl _ _ _) rfl ?_
    rw [E.out]
    exact ⟨rfl, A, c, by rw [hlen]; exact hx, by rw [hlen]; exact h, only_self w g⟩
  · have hle' : ¬ (K : Int) ≥ (lv : Int) := by omega
    have E : Hid (R = ⟨upTo l K, K⟩) := hide (by rw [HR.out, if_neg hle])
    clear HR
    have Hlen := hide hlen
    clear hle hlen
    have hnil := Ens.nil_ 87 w B w.heap.size
    go_wp2
    go_loopw [4, 5] (fun u v wr => ∃ (i m : Nat) (rs : List Re), i ≤ n ∧ m ≤ i ∧ v = .int .i64 (i : Int) ∧ Ens 87 wr B w.heap.size u m rs (upTo (l.take i) K) ∧ Below w.heap.size w wr) (fun _ v _ => n - (RowKit.intOf v).toNat)
    case atStart => exact ⟨0, 0, [], by omega, by omega, rfl, hnil, Below.refl _ _⟩
    case round =>
      obtain ⟨i, m, rs, hi, hmi, rfl, hens, hb⟩ := hrel
      clear hnil
      have bx := hx.below hb hgw
      have y0 := (hb.cell (p := ⟨g, 0, none⟩) hgw).trans x0
      have hbs := hb.size
      have hlo := fun k hk => (hens.1.lt k hk).1
      by_cases hlt : i < n
      · obtain ⟨ad, q, A', n', c', rfl, hbl, hxq, hq, e0, e1, e2, e3, e4⟩ := EnR.at_ (h.on hb) hlt
        have hup := upTo_take hxq K
        obtain ⟨⟨qn, qs, qz⟩, ql, qc⟩ := q
        simp only [] at hq e0 e1 e2 e3 e4 hup
        clear hxq x0 x1
        by_cases hql : ql ≤ K
        · have hql' : (ql : Int) ≤ (K : Int) := by omega
          rw [if_pos hql] at hup
          have Hup := hide hup
          clear hup hql
          go_wp2_with (first
            | (at_builtin
               refine wpList_append_any _ rfl (.tmp 33) (.tmp 41) _ rfl w.heap.size 87 i0 _ 5 64 Tryz.underlying32 hi0 hz0 hz1 hz2 rfl (by omega) _ m (ens rs) rfl
                 (own_below hens.1 (alloc_b (.cells #[.string qn, .slice A' n' c', .bool qz, .int .i64 (ql : Int), .int .i64 qc] 87))) _ _ 1 _ _ rfl (reads_ent wr qn A' n' c' qz (ql : Int) qc _ _ rfl) (ent_one _ _ _ _ _ _ _) (by unfold maxLen; omega) (by omega) (by simp; omega) ?_
               intro u1 w1 hown1 hg1 _
               have hA1 := alloc_b (w := wr) (.cells #[.string qn, .slice A' n' c', .bool qz, .int .i64 (ql : Int), .int .i64 qc] 87)
               have hk1 : Ens 87 w1 B w.heap.size u1 (m + 1) _ (upTo (l.take i) K ++ [⟨⟨qn, qs, qz⟩, ql, qc⟩]) := Ens.cat (hens.below hA1) (by decide) (by omega) (AllE.one (hq.below hA1)) hown1 hg1
               have hb1 : Below w.heap.size w w1 := (hb.trans (hA1.mono hbs)).grown hg1 (Nat.le_trans hbs hA1.size) hlo))
          rw [← Hup.out] at hk1
          go_roundw
          case rel => exact ⟨i + 1, m + 1, _, by omega, by omega, by go_num, hk1, hb1⟩
          case measure => simp [RowKit.intOf]; omega
        · have hql' : ¬ (ql : Int) ≤ (K : Int) := by omega
          rw [if_neg hql] at hup
          rw [← hup] at hens
          clear hup hql
          go_wp2
          go_roundw
          case rel => exact ⟨i + 1, m, rs, by omega, by omega, by go_num, hens, hb⟩
          case measure => simp [RowKit.intOf]; omega
      · have hi2 : i = n := by omega
        subst hi2
        rw [List.take_of_length_le (by have := Hlen.out; omega)] at hens
        have hlm := hens.len
        obtain ⟨A3, c3, rfl, hc3, hR3⟩ := hens.told (by omega)
        clear hens x0
        have y1 := bx.cell 1
        have f0 := bx.frozen 0
        have f1 := bx.frozen 1
        have hblk := (bx.set_ 0 (.slice A3 m c3)).set_ 1 (.int .i64 (K : Int))
        have hgs := only_setCell (p := ⟨g, 1, none⟩) (only_setCell (p := ⟨g, 0, none⟩) (only_self wr g) (.inl rfl) (.slice A3 m c3)) (.inl rfl) (.int .i64 (K : Int))
        have hRf := hR3.far (farT_blk bx (by decide)) (farT_blk bx (by decide)) (fun r e => by injection e with e; omega) hgs
        go_wp2
        refine bodyPost_ret (results_none rfl _ _ _) rfl ?_
        rw [E.out]
        refine ⟨rfl, A3, c3, ?_, ?_, only_setCell (p := ⟨g, 1, none⟩) (only_setCell (p := ⟨g, 0, none⟩) (only_of_below hb g) (.inl rfl) _) (.inl rfl) _⟩
        · rw [hlm]; exact hblk
        · rw [hlm]; exact hRf
end Go.Proofs.YtllogmokadcfmaaGreat.Trail
/-
  The contract of the document's own First: by how many entries a clash is. Condition: at most 60 entries, whose sets may be, and are short; terms whose sets are short.
-/
namespace Go.Proofs.YtllogmokadcfmaaGreat.Trail
open Go Go.RowKit Go.Lib Go.Proofs.YtllogmokadcfmaaGreat.Span Go.Proofs.YtllogmokadcfmaaGreat.Need Go.Proofs.YtllogmokadcfmaaGreat.Mani Go.Proofs.YtllogmokadcfmaaGreat.Grow Go.Proofs.YtllogmokadcfmaaGreat.Pick Go.Proofs.YtllogmokadcfmaaGreat.Term Go.Proofs.YtllogmokadcfmaaGreat.Clash
set_option linter.unusedVariables false
set_option linter.unusedSimpArgs false
theorem all_take {c : List Tm} {i : Nat} {t : Tm} (f : Tm → Bool) (h : c[i]? = some t) : (c.take (i + 1)).all f = ((c.take i).all f && f t) := by
  rw [List.take_add_one, h, List.all_append]
  simp
set_option maxHeartbeats 8000000 in
set_option maxRecDepth 100000 in
theorem refFirstE_any (B : Nat) (l : List Ent) (c : List Tm) (A Ac : Option Addr) (n k lv nc kc : Nat) (w : World) (h : EnR 87 w B A n l) (hs : SmallE l) (hn : n ≤ 60) (hc : TmOn w Ac nc c) (hnc : nc ≤ 1000) (hct : ∀ t ∈ c, t.set.length ≤ 60) :
    Calls Tryz.prog 20 #[.agg #[.slice A n k, .int .i64 (lv : Int)], .slice Ac nc kc] w fun e w' => e = .returned (.int .i64 (firstT l c)) ∧ Below w.heap.size w w' := by
  have hlen := h.len
  have hclen := hc.len
  obtain ⟨W0, hW0⟩ : ∃ W0, W0 = w.alloc (.cells #[.slice A n k, .int .i64 (lv : Int)] 34) := ⟨_, rfl⟩
  have hbW0 : Below w.heap.size w W0 := by rw [hW0]; exact (Below.refl _ _).alloc (Nat.le_refl _) _
  have bX : Blk W0 w.heap.size 34 #[.slice A n k, .int .i64 (lv : Int)] := by rw [hW0]; exact Blk.new w _ _
  have HB := hide (fun (wx : World) (hx : Below W0.heap.size W0 wx) => (show wx.cell? ⟨w.heap.size, 0, none⟩ = some (.slice A n k) ∧ wx.cell? ⟨w.heap.size, 1, none⟩ = some (.int .i64 (lv : Int)) from ⟨(bX.below hx bX.lt).cell 0, (bX.below hx bX.lt).cell 1⟩))
  have HK := hide (fun (j : Nat) (nm : ByteArray) (wx : World) (hx : Below W0.heap.size W0 wx) => refKnowAt_any B l A n k lv (j : Int) nm wx (h.on (hbW0.trans (hx.mono hbW0.size))) hs (by omega))
  unfold TellsTm at HK
  have HL := hide (fun (j : Nat) (nm : ByteArray) => (show (knowL (l.take ((j : Int)).toNat) nm).set.length ≤ 10000 from by have := know_len_at hs nm (k := ((j : Int)).toNat); omega))
  have HC := hide (fun (wx : World) (hx : Below W0.heap.size W0 wx) => (show TmOn wx Ac nc c from hc.on (hbW0.trans (hx.mono hbW0.size))))
  have Hct := hide hct
  have Hhere := hide (fun (j : Nat) (hj : j ≤ n) (hb : ∀ i, i < j → allIn l c i = false) (ht : allIn l c j = true) => first_here (l := l) (c := c) (by omega) hb ht)
  have Hnone := hide (fun (hb : ∀ i, i ≤ n → allIn l c i = false) => first_none (l := l) (c := c) (fun i hi => hb i (by omega)))
  generalize firstT l c = R at *
  clear h hs hc hct hlen bX
  go_enter Tryz.func20, Tryz.ntmps20
  go_upto_region 1 with fail
  try rw [← hW0]
  clear hW0
  go_wp2
  go_loopw [5] (fun v wr => ∃ j : Nat, j ≤ n + 1 ∧ v = .int .i64 (j : Int) ∧ Hid (∀ i, i < j → allIn l c i = false) ∧ Below W0.heap.size W0 wr) (fun v _ => n + 1 - (RowKit.intOf v).toNat)
  case atStart => exact ⟨0, by omega, rfl, hide (fun i hi => by omega), Below.refl _ _⟩
  case round =>
    obtain ⟨j, hj, rfl, hf, hb⟩ := hrel
    have hbs := hb.size
    obtain ⟨b0, b1⟩ := HB.out wr hb
    by_cases hlt : j ≤ n
    · have hj1 : (j : Int) ≤ (n : Int) := by omega
      obtain ⟨V, hV⟩ : ∃ V, V = wr := ⟨_, rfl⟩
      subst hV
      go_wp2
      go_loopw [6, 7] (fun a p wr => ∃ (i : Nat) (b : Bool), i ≤ nc ∧ p = .int .i64 (i : Int) ∧ a = .bool b ∧ Hid (b = (c.take i).all fun t => withinT (knowL (l.take j) t.name) t) ∧ Below W0.heap.size W0 wr) (fun _ p _ => nc - (RowKit.intOf p).toNat)
      case atStart => exact ⟨0, true, by omega, rfl, rfl, hide rfl, hb⟩
      case round =>
        obtain ⟨i, b, hi, rfl, rfl, hbv, hb2⟩ := hrel
        have hb2s := hb2.size
        by_cases hlt2 : i < nc
        · obtain ⟨ad, t, A', n', c', rfl, hbl, hx, hsp, p0, p1, p2⟩ := TmIn.at_ (HC.out wr hb2) hlt2
          have hi1 : (0 : Int) ≤ (i : Int) := by omega
          have hi2 : (i : Int) < (nc : Int) := by omega
          have hall := all_take (fun t => withinT (knowL (l.take j) t.name) t) hx
          have h60 := Hct.out t (List.mem_of_getElem? hx)
          cases b with
          | false =>
            have e : Hid (false = (c.take (i + 1)).all fun t => withinT (knowL (l.take j) t.name) t) := hide (by rw [hall, ← hbv.out]; rfl)
            clear hall hbv p0 p1 p2 hsp hx h60 hb b0 b1
            go_upto_region 8 with fail
            go_quiet (fail)
            go_wp2
            go_roundw
            case rel => exact ⟨i + 1, false, by omega, by go_num, rfl, e, by first | exact hb2 | exact hb2.drew | exact below_drewN hb2 _⟩
            case measure => simp [RowKit.intOf]; omega
          | true =>
            have e : Hid (withinT (knowL (l.take j) t.name) t = (c.take (i + 1)).all fun t => withinT (knowL (l.take j) t.name) t) := hide (by rw [hall, ← hbv.out, Bool.true_and])
            have hl9 := HL.out j t.name
            have HWi := hide (fun (wx : World) (A1 A2 : Option Addr) (n1 c1 n2 c2 : Nat) (h1 : SpOn wx A1 n1 (knowL (l.take ((j : Int)).toNat) t.name).set) (h2 : SpOn wx A2 n2 t.set) => refWithinT_any (knowL (l.take ((j : Int)).toNat) t.name).name t.name (knowL (l.take ((j : Int)).toNat) t.name).set t.set (knowL (l.take ((j : Int)).toNat) t.name).none t.none A1 A2 n1 c1 n2 c2 wx h1 h2 (by have := h1.len; omega) (by have := h2.len; omega) (know_set _ _))
            unfold Tells at HWi
            rw [show ∀ a b : Tm, (decide (a.name = b.name) && (decide (lessS a.set b.set = []) && (b.none || !a.none))) = withinT a b from fun _ _ => rfl] at HWi
            have HKj := hide (HK.out j t.name)
            rw [show ((j : Int)).toNat = j from Int.toNat_natCast j] at HWi HKj
            generalize withinT (knowL (l.take j) t.name) t = W at *
            generalize knowL (l.take j) t.name = T9 at *
            have hblk : ∀ q, (⟨(ad.add (i * 3)).block, q, none⟩ : Addr).block < wr.heap.size := fun q => by simp only [block_of_add]; exact hbl
            have HCz := hide (fun (wx : World) (hx : Below wr.heap.size wr wx) => (show wx.cell? ⟨w.heap.size, 0, none⟩ = some (.slice A n k) ∧ wx.cell? ⟨w.heap.size, 1, none⟩ = some (.int .i64 (lv : Int)) ∧ wx.cell? (ad.add (i * 3)) = some (.string t.name) ∧ wx.cell? ⟨(ad.add (i * 3)).block, (ad.add (i * 3)).off + 1, none⟩ = some (.slice A' n' c') ∧ wx.cell? ⟨(ad.add (i * 3)).block, (ad.add (i * 3)).off + 2, none⟩ = some (.bool t.none) from
              ⟨(HB.out wx (hb2.trans (hx.mono hb2s))).1, (HB.out wx (hb2.trans (hx.mono hb2s))).2, (hx.cell (p := ad.add (i * 3)) (by rw [block_of_add]; exact hbl)).trans p0, (hx.cell (hblk _)).trans p1, (hx.cell (hblk _)).trans p2⟩))
            have Hsp := hide (fun (wx : World) (hx : Below wr.heap.size wr wx) => (show SpOn wx A' n' t.set from (show SpOn wr A' n' t.set from hsp).on hx))
            have kd : Below wr.heap.size wr wr.drew := (Below.refl _ _).drew
            obtain ⟨b0, b1⟩ := HB.out wr hb2
            clear hall hbv hsp hx h60 hb hblk hl9 HK HL Hct HC
            go_upto_region 8 with fail
            go_region_held3 (fun w' => w'.cell? ⟨w.heap.size, 0, none⟩ = some (.slice A n k) ∧ w'.cell? ⟨w.heap.size, 1, none⟩ = some (.int .i64 (lv : Int)) ∧ w'.cell? (ad.add (i * 3)) = some (.string t.name) ∧ w'.cell? ⟨(ad.add (i * 3)).block, (ad.add (i * 3)).off + 1, none⟩ = some (.slice A' n' c') ∧ w'.cell? ⟨(ad.add (i * 3)).block, (ad.add (i * 3)).off + 2, none⟩ = some (.bool t.none)) (first | exact HCz.out _ hk3 | exact HCz.out _ hka | exact HCz.out _ kd | go_keep)
              (first
                | (go_at_call 54
                   refine (HWi.out _ _ _ _ _ _ _ h6.1 (Hsp.out _ hka)).mono ?_
                   rintro e w7 ⟨rfl, hb7⟩
                   have hk3 : Below wr.heap.size wr w7 := hka.trans (hb7.mono hka.size))
                | (go_at_call 23
                   refine (HKj.out _ (hb2.trans (kd.mono hb2s))).mono ?_
                   rintro e w6 ⟨A6, n6, c6, rfl, h6, hb6⟩
                   have hka : Below wr.heap.size wr w6 := kd.trans (hb6.mono kd.size)))
            all_goals
              go_wp2
              go_roundw
              case rel => exact ⟨i + 1, W, by omega, by go_num, rfl, e, hb2.trans (hk3.mono hb2s)⟩
              case measure => simp [RowKit.intOf]; omega
        · have hi2 : i = nc := by omega
          have hall : Hid (b = allIn l c j) := hide (by
            rw [hbv.out]
            unfold allIn
            rw [List.take_of_length_le (by omega)])
          cases b with
          | true =>
            have E : Hid (R = (j : Int)) := hide (Hhere.out j hlt hf.out hall.out.symm)
            clear hall hbv
            go_wp2
            go_ret
            exact ⟨by rw [E.out]; rfl, hbW0.trans (hb2.mono hbW0.size)⟩
          | false =>
            have E : Hid (∀ i, i < j + 1 → allIn l c i = false) := hide (fun i hi => by
              rcases Nat.lt_or_ge i j with h | h
              · exact hf.out i h
              · rw [show i = j by omega]; exact hall.out.symm)
            clear hall hbv
            go_wp2
            go_roundw
            case rel => exact ⟨j + 1, by omega, by go_num, E, hb2⟩
            case measure => simp [RowKit.intOf]; omega
    · have hj1 : ¬ (j : Int) ≤ (n : Int) := by omega
      have E : Hid (R = -1) := hide (Hnone.out (fun i hi => hf.out i (by omega)))
      clear hf
      go_wp2
      go_ret
      exact ⟨by rw [E.out]; rfl, hbW0.trans (hb.mono hbW0.size)⟩
end Go.Proofs.YtllogmokadcfmaaGreat.Trail
