/-
  Some texts of this claim, one behind the other: ClashFind. What each proves, and its condition, stands at its head.
-/
import Derived.Test.YtckioihkknhfpaaGreatDoorX37
import Derived.Test.YtckioihkknhfpaaGreatDoorX31
import Derived.Test.YtckioihkknhfpaaGreatDoorX22
import Derived.Test.YtckioihkknhfpaaGreatDoorX21
/-
  Contracts of the program's Find (and of the full term of a name). Condition: clashes that may be, of names of at most 1,000,000,000 bytes.
-/
namespace Go.Proofs.YtckioihkknhfpaaGreatDoor.Clash
open Go Go.RowKit Go.Lib Go.Proofs.YtckioihkknhfpaaGreatDoor.Span Go.Proofs.YtckioihkknhfpaaGreatDoor.Need Go.Proofs.YtckioihkknhfpaaGreatDoor.Grow Go.Proofs.YtckioihkknhfpaaGreatDoor.Term
set_option linter.unusedVariables false
theorem all_new (w : World) :
    Calls Tryz.prog 58 #[] w fun e w' => ∃ A n c, e = .returned (.slice A n c) ∧ NewS w' w.heap.size A n c allS ∧ Below w.heap.size w w' := by
  have hrd := hide (spIn_of_reads (reads_one w 0 1000000000 _ rfl))
  go_enter Tryz.func58, Tryz.ntmps58
  go_wp2
  go_ret
  exact ⟨some ⟨w.heap.size, 0, none⟩, 1, 1, rfl, ⟨rfl, Nat.le_refl _, ⟨rfl, .inr ⟨w.heap.size, 1, _, rfl, Nat.le_refl _, heap_alloc_new w _, Nat.le_refl _, by decide, rfl, rfl⟩⟩, (hrd.out).more (by simp)⟩, (Below.refl _ _).alloc (Nat.le_refl _) _⟩
set_option maxHeartbeats 4000000 in
set_option maxRecDepth 100000 in
theorem fullC_any (nm : ByteArray) (w : World) (hnm : nm.size ≤ 1000000000) :
    Calls Tryz.prog 45 #[.string nm] w (MakesT w (fullOf nm)) := by
  unfold MakesT
  show Calls _ _ _ _ fun e w' => ∃ A n c, e = .returned (.agg #[.string nm, .slice A n c, .bool true]) ∧ NewS w' w.heap.size A n c allS ∧ Below w.heap.size w w'
  have HK := hide (fun (wx : World) => Label.clone_any nm wx hnm)
  have HA := hide (fun (wx : World) => all_new wx)
  obtain ⟨W, hW⟩ : ∃ W, W = w.alloc (.cells #[.string ⟨#[]⟩, .slice none 0 0, .bool false] 30) := ⟨_, rfl⟩
  have hbW : Below w.heap.size w W := by rw [hW]; exact alloc_b _
  have bk : Blk W w.heap.size 30 #[.string ⟨#[]⟩, .slice none 0 0, .bool false] := by rw [hW]; exact Blk.new _ _ _
  have hlW := bk.lt
  generalize allS = L at *
  clear hnm
  go_enter Tryz.func45, Tryz.ntmps45
  go_upto_region 1 with fail
  try rw [← hW]
  clear hW
  go_wp2_with (first
    | (go_at_call 73
       refine (HK.out _).mono ?_
       rintro e w1 ⟨rfl, hb1⟩
       have hs1 := hb1.size)
    | (go_at_call 58
       refine (HA.out _).mono ?_
       rintro e w2 ⟨A2, n2, c2, rfl, hN2, hb2⟩
       have hb12 := hb1.trans (hb2.mono hs1)
       have bk1 := bk.below hb12 bk.lt
       have hbw := hbW.trans (hb12.mono hbW.size)
       have k0 := bk1.cell 0
       have k1 := bk1.cell 1
       have k2 := bk1.cell 2
       have f0 := bk1.frozen 0
       have f1 := bk1.frozen 1
       have f2 := bk1.frozen 2))
  have hblk := stored_row (u := .string nm) (v := .slice A2 n2 c2) (x := .bool true) bk1 rfl
  refine bodyPost_ret (results_cell_row rfl _ _ w.heap.size 30 _ (0, 0) _ rfl hblk Tryz.underlying30 rfl rfl) rfl ?_
  exact ⟨A2, n2, c2, rfl, (three_new hN2 (by omega) _ _ _).less (by omega), three_b hbw (Nat.le_refl _) _ _ _⟩
set_option maxHeartbeats 8000000 in
set_option maxRecDepth 100000 in
theorem specFindC : SpecFindC := by
  intro l nm A n c w h hl hok hnm
  unfold FindsT
  have hlen := hide h.len
  have hn : n ≤ 1000 := by rw [← h.len]; exact hl.1
  have Hok := hide (fun t (ht : t ∈ l) => ((okC_iff.1 hok).2 t ht).1)
  have Hd := hide (fun i t => @findC_drop l nm t i)
  have Hend : Hid (findC (l.drop n) nm = none) := hide (by rw [List.drop_of_length_le (by have := hlen.out; omega)]; rfl)
  have HF := hide (fun (wx : World) => fullC_any nm wx hnm)
  unfold MakesT at HF
  obtain ⟨r, hr⟩ : ∃ r, r = findC l nm := ⟨_, rfl⟩
  have Hr : Hid (r = findC (l.drop 0) nm) := hide hr
  have Hf : Hid (foundC l nm = r.getD (fullOf nm)) := hide (by rw [hr]; rfl)
  rw [← hr]
  generalize foundC l nm = F at *
  clear hr
  obtain ⟨W, hW⟩ : ∃ W, W = w.alloc (.cells #[.string ⟨#[]⟩, .slice none 0 0, .bool false] 30) := ⟨_, rfl⟩
  have hbW : Below w.heap.size w W := by rw [hW]; exact alloc_b _
  have bk : Blk W w.heap.size 30 #[.string ⟨#[]⟩, .slice none 0 0, .bool false] := by rw [hW]; exact Blk.new _ _ _
  have hWl : w.heap.size < W.heap.size := bk.lt
  go_enter Tryz.func19, Tryz.ntmps19
  go_upto_region 1 with fail
  try rw [← hW]
  clear hW
  go_wp2
  go_loopw [10] (fun v wr => ∃ i : Nat, i ≤ n ∧ v = .int .i64 (i : Int) ∧ Hid (r = findC (l.drop i) nm) ∧ Below W.heap.size W wr) (fun v _ => n - (RowKit.intOf v).toNat)
  case atStart => exact ⟨0, by omega, rfl, Hr, Below.refl _ _⟩
  case round =>
    obtain ⟨i, hi, rfl, hf, hbr⟩ := hrel
    have hbrs := hbr.size
    have hb := hbW.trans (hbr.mono hbW.size)
    have hbs := hb.size
    by_cases hlt : i < n
    · obtain ⟨ad, t, A', n', c', rfl, hbl, hx, hs, c1, c2, c3⟩ := TmIn.at_ (TmIn.below h hb) hlt
      have hd := hf.out.trans (Hd.out i t hx)
      have he := eq_names t.name nm
      have hot := Hok.out t (List.mem_of_getElem? hx)
      clear hx hf Hend Hr h Hd Hok
      by_cases hxn : t.name = nm
      · rw [if_pos hxn] at hd
        have hst := okT_set hot
        have hme := meet_fullT hot
        obtain ⟨tn, ts, tz⟩ := t
        have hxn' : tn = nm := hxn
        simp only [] at c1 c2 c3 hs hst
        clear hxn he
        subst hxn'
        have hF : Hid (F = ⟨tn, ts, tz⟩) := hide (by rw [Hf.out, hd]; rfl)
        have hS : Hid (r = some ⟨tn, ts, tz⟩) := hide hd
        have HM := hide (fun (wx : World) (Aq : Option Addr) (nq cq : Nat) (hq : SpOn wx Aq nq allS) (h2 : SpOn wx A' n' ts) => meetT_any tn tn allS ts true tz Aq A' nq cq n' c' wx hq h2 hnm allS_set hst)
        rw [show meetT ⟨tn, allS, true⟩ ⟨tn, ts, tz⟩ = ⟨tn, ts, tz⟩ from hme] at HM
        unfold MakesT at HM
        have HF2 := hide (show ∀ wx : World, Calls Tryz.prog 45 #[.string tn] wx fun e w' => ∃ A n c, e = .returned (.agg #[.string tn, .slice A n c, .bool true]) ∧ NewS w' wx.heap.size A n c allS ∧ Below wx.heap.size wx w' from HF.out)
        obtain ⟨V, hV⟩ : ∃ V, V = wr.alloc (.cells #[.string tn, .slice A' n' c', .bool tz] 30) := ⟨_, rfl⟩
        have hbV : Below wr.heap.size wr V := by rw [hV]; exact alloc_b _
        have hbVW : Below W.heap.size W V := hbr.trans (hbV.mono hbrs)
        have bt : Blk V wr.heap.size 30 #[.string tn, .slice A' n' c', .bool tz] := by rw [hV]; exact Blk.new _ _ _
        have bkV := bk.below hbVW bk.lt
        have hsV : SpOn V A' n' ts := (((hs.more hbs).below hbV).more hbV.size)
        have hVl := hbVW.size
        clear hd Hf hs hme hot hst HF
        generalize allS = LA at *
        go_upto_region 5 with fail
        try rw [← hV]
        clear hV
        have q0 := cell_reg_ ((bt.cell 0).trans (show (#[.string tn, .slice A' n' c', .bool tz] : Array Value)[0]? = some (.string tn) from rfl)) bt.lt
        have q1 := cell_reg_ ((bt.cell 1).trans (show (#[.string tn, .slice A' n' c', .bool tz] : Array Value)[1]? = some (.slice A' n' c') from rfl)) bt.lt
        have q2 := cell_reg_ ((bt.cell 2).trans (show (#[.string tn, .slice A' n' c', .bool tz] : Array Value)[2]? = some (.bool tz) from rfl)) bt.lt
        refine wp_region_grow_w [(19, tmR V.heap.size ⟨tn, LA, true⟩), (21, tmR V.heap.size ⟨tn, ts, tz⟩)] [19, 21] 4 (storesT w.heap.size V.heap.size ⟨tn, ts, tz⟩) _
          (by kernel_rfl) (by kernel_rfl) rfl (by kernel_rfl) (by kernel_rfl) (by kernel_rfl) rfl rfl (by kernel_rfl) (by kernel_rfl) ⟨tmR_stable _ _, tmR_stable _ _, trivial⟩ ?_
        repeat (first
          | (refine lexK_skip (by decide) rfl ?_; simp only [Act.put, List.setIfInBounds_toArray, List.set_cons_zero, List.set_cons_succ])
          | (refine lexK_quiet (by decide) rfl rfl rfl (fun K hK => ?_); unfold Reg; go_big_quiet_op; refine hK _ ?_; clear hK K))
        refine lexK_rel (by decide) rfl rfl (fun w' hb9 hK => ?_) (fun v w' hb9 hv => ?_)
        · unfold grows
          go_simp
          go_at_call 45
          refine (HF2.out w').mono ?_
          rintro e w8 ⟨A8, n8, c8, rfl, h8, hb8⟩
          exact ⟨_, rfl, hb8, A8, n8, c8, rfl, h8.less hb9.size⟩
        obtain ⟨A3, n3, c3', rfl, hN3⟩ := hv
        simp only [Act.put, List.setIfInBounds_toArray, List.set_cons_zero, List.set_cons_succ]
        repeat (first
          | (refine lexK_skip (by decide) rfl ?_; simp only [Act.put, List.setIfInBounds_toArray, List.set_cons_zero, List.set_cons_succ])
          | (refine lexK_quiet (by decide) rfl rfl rfl (fun K hK => ?_); unfold Reg; go_big_quiet_op; refine hK _ ?_; clear hK K))
        refine lexK_rel (by decide) rfl rfl (fun w' hb9 hK => ?_) (fun v w' hb9 hv => ?_)
        · obtain ⟨A4, n4, c4, e4, hN4⟩ := hK.at_ 19 rfl rfl (agg_d _)
          have e5 : Value.agg #[.string tn, .slice A3 n3 c3', .bool true] = .agg #[.string tn, .slice A4 n4 c4, .bool true] := e4
          obtain ⟨e6, e7, e8⟩ := agg_inj e5
          rw [← e6, ← e7] at hN4
          clear e4 e5 e6 e7 e8 hK
          unfold grows
          go_simp
          go_at_call 44
          refine (HM.out w' _ _ _ (on_new hN4) (hsV.on hb9)).mono ?_
          rintro e w8 ⟨A8, n8, c8, rfl, h8, hb8⟩
          exact ⟨_, rfl, hb8, A8, n8, c8, rfl, h8.less hb9.size⟩
        obtain ⟨A6, n6, c6, rfl, hN6⟩ := hv
        simp only [Act.put, List.setIfInBounds_toArray, List.set_cons_zero, List.set_cons_succ]
        refine lexK_wr rfl rfl (fun w' hb9 hK => ?_) (fun v w' w'' hb9 hv => ?_)
        · obtain ⟨A4, n4, c4, e4, hN4⟩ := hK.at_ 21 rfl (agg_d _)
          have bk9 := bkV.below hb9 bkV.lt
          have k0 := bk9.cell 0
          have k1 := bk9.cell 1
          have k2 := bk9.cell 2
          have f0 := bk9.frozen 0
          have f1 := bk9.frozen 1
          have f2 := bk9.frozen 2
          have e5 : Value.agg #[.string tn, .slice A6 n6 c6, .bool tz] = .agg #[.string tn, .slice A4 n4 c4, .bool tz] := e4
          obtain ⟨e7, e8, e9⟩ := agg_inj e5
          rw [← e7, ← e8, ← e9] at hN4
          clear e4 e5 e7 e8 e9 hK
          unfold grows
          go_simp
          exact ⟨_, _, _, hN4, rfl⟩
        simp only [Act.put]
        refine lexK_late (by decide) rfl rfl (fun K hK => ?_)
        go_big_quiet_op
        refine hK _ ?_
        clear hK K
        refine lexK_nil (fun w9 w1 v hC9 hall hS9 _ => ?_)
        have hb9 := reg_iff.1 hC9
        obtain ⟨A5, n5, c5, hN5, rfl⟩ := hS9
        clear hall q0 q1 q2 HM HF2
        have hblk := stored_row (u := .string tn) (v := .slice A5 n5 c5) (x := .bool tz) (bkV.below hb9 bkV.lt) rfl
        have hbz : Below w.heap.size w w1 := hbW.trans ((hbVW.trans (hb9.mono hVl)).mono hbW.size)
        go_wp2
        refine bodyPost_ret (results_row_tmp rfl _ _ w.heap.size 30 _ (0, 0) _ (.bool true) rfl rfl hblk Tryz.underlying30 rfl term_size) rfl ?_
        refine ⟨A5, n5, ⟨c5, by rw [hF.out, hS.out]; rfl⟩, ?_, three_b hbz (Nat.le_refl _) _ _ _⟩
        rw [hF.out]
        exact on_new (three_new hN5 (by omega) _ _ _)
      · rw [if_neg hxn] at hd
        rw [decide_eq_false hxn] at he
        have Hd2 := hide hd
        have hbV : Below W.heap.size W (wr.alloc (.cells #[.string t.name, .slice A' n' c', .bool t.none] 30)) := hbr.alloc hbrs _
        clear hxn hd hs HF hot
        go_wp2
        go_roundw
        case rel => exact ⟨i + 1, by omega, by go_num, Hd2, hbV⟩
        case measure => simp [RowKit.intOf]; omega
    · have hi2 : i = n := by omega
      have hS : Hid (r = none) := hide (by rw [hf.out, hi2]; exact Hend.out)
      have hF : Hid (F = ⟨nm, allS, true⟩) := hide (by rw [Hf.out, hS.out]; rfl)
      have HF2 := hide (show ∀ wx : World, Calls Tryz.prog 45 #[.string nm] wx fun e w' => ∃ A n c, e = .returned (.agg #[.string nm, .slice A n c, .bool true]) ∧ NewS w' wx.heap.size A n c allS ∧ Below wx.heap.size wx w' from HF.out)
      clear hf Hf Hend Hr Hd Hok HF h
      generalize allS = LA at *
      go_wp2_with (first
        | (go_at_call 45
           refine (HF2.out _).mono ?_
           rintro e w2 ⟨A2, n2, c2, rfl, hN2, hb2⟩
           have hb12 := hbr.trans (hb2.mono hbrs)
           have bk1 := bk.below hb12 bk.lt
           have hbw := hbW.trans (hb12.mono hbW.size)
           have k0 := bk1.cell 0
           have k1 := bk1.cell 1
           have k2 := bk1.cell 2
           have f0 := bk1.frozen 0
           have f1 := bk1.frozen 1
           have f2 := bk1.frozen 2))
      have hblk := stored_row (u := .string nm) (v := .slice A2 n2 c2) (x := .bool true) bk1 rfl
      refine bodyPost_ret (results_row_tmp rfl _ _ w.heap.size 30 _ (0, 0) _ (.bool false) rfl rfl hblk Tryz.underlying30 rfl term_size) rfl ?_
      refine ⟨A2, n2, c2, by rw [hF.out, hS.out]; rfl, ?_, three_b hbw (Nat.le_refl _) _ _ _⟩
      rw [hF.out]
      exact on_new (three_new hN2 (by omega) _ _ _)
end Go.Proofs.YtckioihkknhfpaaGreatDoor.Clash
