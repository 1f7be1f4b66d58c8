/-
  Some texts of this claim, one behind the other: DepotOf. What each proves, and its condition, stands at its head.
-/
import Derived.Test.YtbagekkcakfhgaaZ31
import Derived.Test.YtbagekkcakfhgaaZ30
import Derived.Test.YtbagekkcakfhgaaZ16
import Derived.Test.YtbagekkcakfhgaaZ25
/-
  The contracts of the program's Of and the document's: the depot of manifests. Condition: manifests that are looked at.
-/
namespace Go.Proofs.Ytbagekkcakfhgaa.Depot
open Go Go.RowKit Go.Lib Go.Proofs.Ytbagekkcakfhgaa.Span Go.Proofs.Ytbagekkcakfhgaa.Need Go.Proofs.Ytbagekkcakfhgaa.Mani Go.Proofs.Ytbagekkcakfhgaa.Wire Go.Proofs.Ytbagekkcakfhgaa.Grow
set_option linter.unusedVariables false
/-- It answers the depot of these manifests. -/
def Ofs (w : World) (l : List Mn) (e : Ending) (w' : World) : Prop := ∃ A n c, e = .returned (.tuple #[.slice A n c, .bool (ofE l).2]) ∧ EnOn w' A n (ofE l).1 ∧ Below w.heap.size w w'
theorem ofs_none {w w' : World} {l : List Mn} {e : Ending} (h : ofE l = ([], false)) (he : e = .returned (.tuple #[.slice none 0 0, .bool false])) (hb : Below w.heap.size w w') : Ofs w l e w' :=
  ⟨none, 0, 0, by rw [h]; exact he, by rw [h]; exact EnOn.nil _ _, hb⟩
theorem all_take {l : List Mn} {i : Nat} {m : Mn} (hx : l[i]? = some m) (h : ∀ q ∈ l.take i, okM q.1 q.2 = true) (hm : okM m.1 m.2 = true) : ∀ q ∈ l.take (i + 1), okM q.1 q.2 = true := by
  intro q hq
  rw [take_snoc' l i m hx, List.mem_append] at hq
  rcases hq with hq | hq
  · exact h q hq
  · rw [List.mem_singleton.1 hq]; exact hm
theorem depE_names {l : List Mn} (h : ∀ m ∈ l, m.1.size ≤ 1000000000) : ∀ q ∈ depE l, q.1.size ≤ 1000000000 := by
  intro q hq
  obtain ⟨m, hm, rfl⟩ := List.mem_map.1 hq
  exact h m hm
set_option maxHeartbeats 8000000 in
set_option maxRecDepth 100000 in
theorem of_any (l : List Mn) (A : Option Addr) (n c : Nat) (w : World) (h : MnOn w A n l) (hl : ∀ m ∈ l, m.1.size ≤ 1000000000 ∧ FineR m.2) (hn : n ≤ 1000) :
    Calls Try.prog 19 #[.slice A n c] w (Ofs w l) := by
  unfold Ofs
  obtain ⟨i0, hi0, hz0, hz1, hz2⟩ := info_parts info_entry
  have Hlen := hide h.len
  have Hl := hide hl
  have Hbad := hide (fun m (hm : m ∈ l) => ofE_bad (l := l) hm)
  have Hno := hide (@ofE_no l)
  have Hyes := hide (@ofE_yes l)
  have Htk := hide (fun i m => @depE_take l i m)
  have Hat := hide (fun i m => @all_take l i m)
  generalize ofE l = O at *
  go_enter Try.func19, Try.ntmps19
  go_wp2
  go_loopw [4, 9] (fun u v wr => ∃ (i : Nat) (rs : List Rw) (out : List En), i ≤ n ∧ v = .int .i64 (i : Int) ∧ Ens wr w.heap.size u i rs out ∧ Hid (out = depE (l.take i)) ∧ Hid (∀ q ∈ l.take i, okM q.1 q.2 = true) ∧ Below w.heap.size w wr) (fun _ v _ => n - (RowKit.intOf v).toNat)
  case atStart => exact ⟨0, [], [], by omega, rfl, Ens.nil_ _ _, hide rfl, hide (fun q hq => by simp at hq), Below.refl _ _⟩
  case round =>
    obtain ⟨i, rs, out, hi, rfl, hN, ho, ha, hb⟩ := hrel
    obtain ⟨Ax, cx, rfl, hcx, hrd⟩ := hN.told
    have hbs := hb.size
    by_cases hlt : i < n
    · obtain ⟨ad, q, A', n', c', rfl, hbl, hx, hs, c1, c2⟩ := PIn.at_ (MnIn.below h hb) hlt
      obtain ⟨hq1, hq2⟩ := hl q (List.mem_of_getElem? hx)
      have Hb2 := hide (Hbad.out q (List.mem_of_getElem? hx))
      have Ht2 := hide ((Htk.out i q hx).trans (congrArg (· ++ [(q.1, putB q.1 q.2)]) ho.out.symm))
      have Ha2 := hide (Hat.out i q hx ha.out)
      obtain ⟨x, r⟩ := q
      have hr : RlIn wr w.heap.size A' n' r := hs
      simp only [] at c1 c2 hq1 hq2 Hb2 Ht2 Ha2
      have HK := hide (fun (wx : World) (hbx : Below wr.heap.size wr wx) => checkM_any x r A' n' c' wx ((RlIn.below hr (hbx.mono hbs)).more (Nat.le_trans hbs hbx.size)) hq2 hq1)
      unfold Tells at HK
      have HP := hide (fun (wx : World) (hbx : Below wr.heap.size wr wx) => putM_any x r A' n' c' wx ((RlIn.below hr (hbx.mono hbs)).more (Nat.le_trans hbs hbx.size)) hq2 hq1)
      unfold MakesB at HP
      have HC := hide (fun wx => Label.clone_any x wx hq1)
      have bA := Blk.new wr 28 #[.string x, .slice A' n' c']
      have kA0 := (bA.cell 0).trans (show (#[Value.string x, .slice A' n' c'] : Array Value)[0]? = some (.string x) from rfl)
      have kA1 := (bA.cell 1).trans (show (#[Value.string x, .slice A' n' c'] : Array Value)[1]? = some (.slice A' n' c') from rfl)
      have hi1 : (0 : Int) ≤ (i : Int) := by omega
      have hi2 : (i : Int) < (n : Int) := by omega
      clear hx ho ha hs hr hq1 hq2 Hbad Htk Hat h hl hrd
      cases hok : okM x r
      · rw [hok] at HK
        have E := hide (Hb2.out hok)
        clear hok Hb2 Ht2 Ha2
        go_wp2_with (first
          | (go_at_call 35
             refine (HK.out _ (alloc_b (.cells #[.string x, .slice A' n' c'] 28))).mono ?_
             rintro e w1 ⟨rfl, hb1⟩
             have hw1 : Below w.heap.size w w1 := hb.trans (((alloc_b (.cells #[.string x, .slice A' n' c'] 28)).trans (hb1.mono (by simp))).mono hbs)))
        go_ret2
        exact ⟨none, 0, 0, by rw [E.out]; rfl, by rw [E.out]; exact EnOn.nil _ _, hw1⟩
      · rw [hok] at HK
        have Ha3 := hide (Ha2.out hok)
        clear hok Hb2 Ha2
        generalize putB x r = L at *
        go_upto_region 7 with (first
          | (go_at_call 35
             refine (HK.out _ (alloc_b (.cells #[.string x, .slice A' n' c'] 28))).mono ?_
             rintro e w1 ⟨rfl, hb1⟩
             have hbr : Below wr.heap.size wr w1 := (alloc_b (.cells #[.string x, .slice A' n' c'] 28)).trans (hb1.mono (by simp))
             have b1 := bA.below hb1 bA.lt
             have q1 := cell_reg_ ((b1.cell 0).trans rfl) b1.lt
             have q2 := cell_reg_ ((b1.cell 1).trans rfl) b1.lt))
        have hw1 := hb.trans (hbr.mono hbs)
        have hw1s := hw1.size
        have hN1 := hN.below hbr
        refine wp_region_grow_w [(19, isC (.string x)), (21, bR L), (22, entV x L), (23, rowE x L)] [19, 21, 22, 23] 8 (putsE w.heap.size i rs (.slice Ax i cx) x L) _
          (by kernel_rfl) (by kernel_rfl) rfl (by kernel_rfl) (by kernel_rfl) (by kernel_rfl) rfl rfl (by kernel_rfl) (by kernel_rfl) ⟨isC_stable _, bR_stable _, entV_stable _ _, rowE_stable _ _, trivial⟩ ?_
        repeat (first
          | (refine lexK_skip (by decide) rfl ?_; simp only [Act.put, List.setIfInBounds_toArray, List.set_cons_zero, List.set_cons_succ])
          | (refine lexK_quiet (by decide) rfl rfl rfl (fun K hK => ?_); unfold Reg; go_big_quiet_op; refine hK _ ?_; clear hK K)
          | (refine lexK_rel (by decide) rfl rfl (fun w' hb9 hK => ?_) (fun v w' hb9 hv => ?_)
             · unfold grows
               go_simp
               go_at_call 26
               exact call_isC (HC.out w')
             obtain rfl := hv
             simp only [Act.put, List.setIfInBounds_toArray, List.set_cons_zero, List.set_cons_succ])
          | (refine lexK_rel (by decide) rfl rfl (fun w' hb9 hK => ?_) (fun v w' hb9 hv => ?_)
             · unfold grows
               go_simp
               go_at_call 31
               refine (HP.out w' (hbr.trans (hb9.mono hbr.size))).mono ?_
               rintro e w5 ⟨A5, n5, c5, rfl, hN5, hb5⟩
               exact ⟨_, rfl, hb5, A5, n5, c5, rfl, inB_of hN5⟩
             obtain ⟨A8, n8, c8, rfl, hI8⟩ := hv
             simp only [Act.put, List.setIfInBounds_toArray, List.set_cons_zero, List.set_cons_succ])
          | (refine lexK_rel (by decide) rfl rfl (fun w' hb9 hK => ?_) (fun v w' hb9 hv => ?_)
             · obtain ⟨A9, n9, c9, e9, hI9⟩ := hK.at_ 21 rfl rfl (slice_d _ _ _)
               have e10 : Value.slice A8 n8 c8 = .slice A9 n9 c9 := e9
               injection e10 with e11 e12 e13
               rw [← e11, ← e12] at hI9
               clear hK e9 e11 e12 e13
               unfold grows
               go_simp
               exact ⟨Below.refl _ _, A8, n8, c8, rfl, hI9⟩
             obtain ⟨A6, n6, c6, rfl, hI6⟩ := hv
             simp only [Act.put, List.setIfInBounds_toArray, List.set_cons_zero, List.set_cons_succ])
          | (refine lexK_rel (by decide) rfl rfl (fun w' hb9 hK => ?_) (fun v w' hb9 hv => ?_)
             · obtain ⟨A9, n9, c9, e9, hI9⟩ := hK.at_ 22 rfl rfl (agg_d _)
               have e10 : Value.agg #[.string x, .slice A6 n6 c6] = .agg #[.string x, .slice A9 n9 c9] := e9
               injection e10 with e10
               injection e10 with e10
               simp only [List.cons.injEq, Value.slice.injEq, and_true, true_and] at e10
               obtain ⟨e11, e12, e13⟩ := e10
               rw [← e11, ← e12] at hI9
               clear hK e9 e11 e12 e13
               unfold grows
               go_simp
               exact ⟨alloc_b _, some ⟨w'.heap.size, 0, none⟩, 1, A6, n6, c6, rfl, (reads_entry w' x A6 n6 c6 _ _ rfl).more (by simp), hI9.below (alloc_b _)⟩
             obtain ⟨A7, c7, A3, n3, c3, rfl, hr7, hI7⟩ := hv
             simp only [Act.put, List.setIfInBounds_toArray, List.set_cons_zero, List.set_cons_succ])
          | (refine lexK_wr rfl rfl (fun w' hb9 hK => ?_) (fun v w' w'' hb9 hv => ?_)
             · obtain ⟨A4, c4, A5, n5, c5, e4, hr4, hI4⟩ := hK.at_ 23 rfl (slice_d _ _ _)
               injection e4 with e5 e6 e7
               subst e5 e7
               have hN4 := hN1.below hb9
               refine grows_append (.tmp 16) (.tmp 23) _ rfl w.heap.size 46 i0 _ 2 40 Try.underlying22 hi0 hz0 hz1 hz2 rfl (by omega) _ i (rcs rs) rfl hN4.1 _ _ 1 _ _ rfl hr4 (one_entry _ _ _ _) (by unfold maxLen; omega) (by omega) (by have := hb9.size; omega) ?_
               intro v' w5 hown hg _
               exact ⟨_, _, _, hI4, hown, hg⟩
             obtain ⟨Av, cv, rfl⟩ := putsE_slice hv
             simp only [Act.put, List.setIfInBounds_toArray, List.set_cons_zero, List.set_cons_succ])
          | (refine lexK_late (by decide) rfl rfl (fun K hK => ?_); go_big_quiet_op; refine hK _ ?_; clear hK K))
        refine lexK_nil (fun w9 w8 v hC9 hall hS hd => ?_)
        have hb9 := reg_iff.1 hC9
        have hv9 := (hd 24 rfl).resolve_right (slice_d _ _ _)
        have hv9' : Value.slice Av (i + 1) cv = v := hv9
        subst hv9'
        have hN9 := hN1.below hb9
        obtain ⟨rs9, hN10⟩ := putsE_told hN9 hS
        have hb10 := putsE_below hN9 (hw1.trans (hb9.mono hw1s)) (Nat.le_trans hw1s hb9.size) hS
        clear hall hd hS hv9 hC9
        go_wp2
        go_roundw
        case rel => exact ⟨i + 1, rs9, _, by omega, by go_num, hN10, hide Ht2.out.symm, Ha3, hb10⟩
        case measure => simp [RowKit.intOf]; omega
    · have hi2 : i = n := by omega
      have ho2 := ho.out
      have ha2 := ha.out
      rw [List.take_of_length_le (by have := Hlen.out; omega)] at ho2 ha2
      subst hi2
      have hnm := depE_names (l := l) (fun m hm => (hl m hm).1)
      have HD := hide (fun (wx : World) (hx : EnOn wx Ax i (depE l)) => checkD_any (depE l) Ax i cx wx hx (fun q hq => by have := hnm q hq; omega))
      unfold Tells at HD
      rw [ho2] at hrd
      have Hno2 := hide Hno.out
      have Hyes2 := hide (Hyes.out ha2)
      have HD2 := hide (HD.out wr hrd)
      have Hrd := hide hrd
      clear ho ha ho2 ha2 hnm HD Hno Hyes Hbad Htk Hat h hl Hl hrd
      cases hok : okE (depE l)
      · rw [hok] at HD2
        have E := hide (Hno2.out hok)
        clear hok Hno2 Hyes2
        go_wp2_with (first
          | (go_at_call 7
             refine HD2.out.mono ?_
             rintro e w1 ⟨rfl, hb1⟩
             have hw1 := hb.trans (hb1.mono hbs)))
        go_ret2
        exact ⟨none, 0, 0, by rw [E.out]; rfl, by rw [E.out]; exact EnOn.nil _ _, hw1⟩
      · rw [hok] at HD2
        have E := hide (Hyes2.out hok)
        clear hok Hno2 Hyes2
        go_wp2_with (first
          | (go_at_call 7
             refine HD2.out.mono ?_
             rintro e w1 ⟨rfl, hb1⟩
             have hw1 := hb.trans (hb1.mono hbs)
             have hrd1 := Hrd.out.on hb1))
        go_ret2
        exact ⟨Ax, i, cx, by rw [E.out]; rfl, by rw [E.out]; exact hrd1, hw1⟩
set_option maxHeartbeats 8000000 in
set_option maxRecDepth 100000 in
theorem refOf_any (l : List Mn) (A : Option Addr) (n c : Nat) (w : World) (h : MnOn w A n l) (hl : ∀ m ∈ l, m.1.size ≤ 1000000000 ∧ FineR m.2) (hn : n ≤ 1000) :
    Calls Try.prog 20 #[.slice A n c] w (Ofs w l) := by
  unfold Ofs
  obtain ⟨i0, hi0, hz0, hz1, hz2⟩ := info_parts info_entry
  have Hlen := hide h.len
  have Hl := hide hl
  have Hbad := hide (fun m (hm : m ∈ l) => ofE_bad (l := l) hm)
  have Hno := hide (@ofE_no l)
  have Hyes := hide (@ofE_yes l)
  have Htk := hide (fun i m => @depE_take l i m)
  have Hat := hide (fun i m => @all_take l i m)
  generalize ofE l = O at *
  go_enter Try.func20, Try.ntmps20
  go_wp2
  go_loopw [4, 5] (fun u v wr => ∃ (i : Nat) (rs : List Rw) (out : List En), i ≤ n ∧ v = .int .i64 (i : Int) ∧ Ens wr w.heap.size u i rs out ∧ Hid (out = depE (l.take i)) ∧ Hid (∀ q ∈ l.take i, okM q.1 q.2 = true) ∧ Below w.heap.size w wr) (fun _ v _ => n - (RowKit.intOf v).toNat)
  case atStart => exact ⟨0, [], [], by omega, rfl, Ens.nil_ _ _, hide rfl, hide (fun q hq => by simp at hq), Below.refl _ _⟩
  case round =>
    obtain ⟨i, rs, out, hi, rfl, hN, ho, ha, hb⟩ := hrel
    obtain ⟨Ax, cx, rfl, hcx, hrd⟩ := hN.told
    have hbs := hb.size
    by_cases hlt : i < n
    · obtain ⟨ad, q, A', n', c', rfl, hbl, hx, hs, c1, c2⟩ := PIn.at_ (MnIn.below h hb) hlt
      obtain ⟨hq1, hq2⟩ := hl q (List.mem_of_getElem? hx)
      have Hb2 := hide (Hbad.out q (List.mem_of_getElem? hx))
      have Ht2 := hide ((Htk.out i q hx).trans (congrArg (· ++ [(q.1, putB q.1 q.2)]) ho.out.symm))
      have Ha2 := hide (Hat.out i q hx ha.out)
      obtain ⟨x, r⟩ := q
      have hr : RlIn wr w.heap.size A' n' r := hs
      simp only [] at c1 c2 hq1 hq2 Hb2 Ht2 Ha2
      have HK := hide (fun (wx : World) (hbx : Below wr.heap.size wr wx) => refCheckM_any x r A' n' c' wx ((RlIn.below hr (hbx.mono hbs)).more (Nat.le_trans hbs hbx.size)) hq2 hq1)
      unfold Tells at HK
      have HP := hide (fun (wx : World) (hbx : Below wr.heap.size wr wx) => refPutM_any x r A' n' c' wx ((RlIn.below hr (hbx.mono hbs)).more (Nat.le_trans hbs hbx.size)) hq2 hq1)
      unfold Tells at HP
      have hi1 : (0 : Int) ≤ (i : Int) := by omega
      have hi2 : (i : Int) < (n : Int) := by omega
      clear hx ho ha hs hr hq1 hq2 Hbad Htk Hat h hl hrd
      cases hok : okM x r
      · rw [hok] at HK
        have E := hide (Hb2.out hok)
        clear hok Hb2 Ht2 Ha2
        go_wp2_with (first
          | (go_at_call 36
             refine (HK.out _ (Below.refl _ wr)).mono ?_
             rintro e w1 ⟨rfl, hb1⟩
             have hw1 : Below w.heap.size w w1 := hb.trans (((Below.refl _ wr).trans (hb1.mono (Nat.le_refl _))).mono hbs)))
        go_ret2
        exact ⟨none, 0, 0, by rw [E.out]; rfl, by rw [E.out]; exact EnOn.nil _ _, hw1⟩
      · rw [hok] at HK
        have Ha3 := hide (Ha2.out hok)
        clear hok Hb2 Ha2
        generalize putB x r = L at *
        go_upto_region 7 with (first
          | (go_at_call 36
             refine (HK.out _ (Below.refl _ wr)).mono ?_
             rintro e w1 ⟨rfl, hb1⟩
             have hbr : Below wr.heap.size wr w1 := (Below.refl _ wr).trans (hb1.mono (Nat.le_refl _))
             have q1 := cell_reg_ ((hbr.cell (p := ad.add (i * 2)) (by rw [block_of_add]; omega)).trans c1) (by rw [block_of_add]; have := hbr.size; omega)
             have q2 := cell_reg_ ((hbr.cell (p := ⟨(ad.add (i * 2)).block, (ad.add (i * 2)).off + 1, none⟩) (by simp only [block_of_add]; omega)).trans c2) (by simp only [block_of_add]; have := hbr.size; omega)))
        have hw1 := hb.trans (hbr.mono hbs)
        have hw1s := hw1.size
        have hN1 := hN.below hbr
        refine wp_region_grow_w [(28, isC (.string (str L))), (29, bR L), (30, entV x L), (31, rowE x L)] [28, 29, 30, 31] 14 (putsE w.heap.size i rs (.slice Ax i cx) x L) _
          (by kernel_rfl) (by kernel_rfl) rfl (by kernel_rfl) (by kernel_rfl) (by kernel_rfl) rfl rfl (by kernel_rfl) (by kernel_rfl) ⟨isC_stable _, bR_stable _, entV_stable _ _, rowE_stable _ _, trivial⟩ ?_
        repeat (first
          | (refine lexK_skip (by decide) rfl ?_; simp only [Act.put, List.setIfInBounds_toArray, List.set_cons_zero, List.set_cons_succ])
          | (refine lexK_quiet (by decide) rfl rfl rfl (fun K hK => ?_); unfold Reg; go_big_quiet_op; refine hK _ ?_; clear hK K)
          | (refine lexK_rel (by decide) rfl rfl (fun w' hb9 hK => ?_) (fun v w' hb9 hv => ?_)
             · unfold grows
               go_simp
               go_at_call 32
               exact call_isC (HP.out w' (hbr.trans (hb9.mono hbr.size)))
             obtain rfl := hv
             simp only [Act.put, List.setIfInBounds_toArray, List.set_cons_zero, List.set_cons_succ])
          | (refine lexK_rel (by decide) rfl rfl (fun w' hb9 hK => ?_) (fun v w' hb9 hv => ?_)
             · refine grows_convS (t := 28) (s := str L) rfl rfl (fun C W' hI hbW => ?_)
               exact ⟨hbW, _, _, _, rfl, hI⟩
             obtain ⟨A8, n8, c8, rfl, hI8⟩ := hv
             simp only [Act.put, List.setIfInBounds_toArray, List.set_cons_zero, List.set_cons_succ])
          | (refine lexK_rel (by decide) rfl rfl (fun w' hb9 hK => ?_) (fun v w' hb9 hv => ?_)
             · obtain ⟨A9, n9, c9, e9, hI9⟩ := hK.at_ 29 rfl rfl (slice_d _ _ _)
               have e10 : Value.slice A8 n8 c8 = .slice A9 n9 c9 := e9
               injection e10 with e11 e12 e13
               rw [← e11, ← e12] at hI9
               clear hK e9 e11 e12 e13
               unfold grows
               go_simp
               exact ⟨Below.refl _ _, A8, n8, c8, rfl, hI9⟩
             obtain ⟨A6, n6, c6, rfl, hI6⟩ := hv
             simp only [Act.put, List.setIfInBounds_toArray, List.set_cons_zero, List.set_cons_succ])
          | (refine lexK_rel (by decide) rfl rfl (fun w' hb9 hK => ?_) (fun v w' hb9 hv => ?_)
             · obtain ⟨A9, n9, c9, e9, hI9⟩ := hK.at_ 30 rfl rfl (agg_d _)
               have e10 : Value.agg #[.string x, .slice A6 n6 c6] = .agg #[.string x, .slice A9 n9 c9] := e9
               injection e10 with e10
               injection e10 with e10
               simp only [List.cons.injEq, Value.slice.injEq, and_true, true_and] at e10
               obtain ⟨e11, e12, e13⟩ := e10
               rw [← e11, ← e12] at hI9
               clear hK e9 e11 e12 e13
               unfold grows
               go_simp
               exact ⟨alloc_b _, some ⟨w'.heap.size, 0, none⟩, 1, A6, n6, c6, rfl, (reads_entry w' x A6 n6 c6 _ _ rfl).more (by simp), hI9.below (alloc_b _)⟩
             obtain ⟨A7, c7, A3, n3, c3, rfl, hr7, hI7⟩ := hv
             simp only [Act.put, List.setIfInBounds_toArray, List.set_cons_zero, List.set_cons_succ])
          | (refine lexK_wr rfl rfl (fun w' hb9 hK => ?_) (fun v w' w'' hb9 hv => ?_)
             · obtain ⟨A4, c4, A5, n5, c5, e4, hr4, hI4⟩ := hK.at_ 31 rfl (slice_d _ _ _)
               injection e4 with e5 e6 e7
               subst e5 e7
               have hN4 := hN1.below hb9
               refine grows_append (.tmp 18) (.tmp 31) _ rfl w.heap.size 46 i0 _ 2 40 Try.underlying22 hi0 hz0 hz1 hz2 rfl (by omega) _ i (rcs rs) rfl hN4.1 _ _ 1 _ _ rfl hr4 (one_entry _ _ _ _) (by unfold maxLen; omega) (by omega) (by have := hb9.size; omega) ?_
               intro v' w5 hown hg _
               exact ⟨_, _, _, hI4, hown, hg⟩
             obtain ⟨Av, cv, rfl⟩ := putsE_slice hv
             simp only [Act.put, List.setIfInBounds_toArray, List.set_cons_zero, List.set_cons_succ])
          | (refine lexK_late (by decide) rfl rfl (fun K hK => ?_); go_big_quiet_op; refine hK _ ?_; clear hK K))
        refine lexK_nil (fun w9 w8 v hC9 hall hS hd => ?_)
        have hb9 := reg_iff.1 hC9
        have hv9 := (hd 32 rfl).resolve_right (slice_d _ _ _)
        have hv9' : Value.slice Av (i + 1) cv = v := hv9
        subst hv9'
        have hN9 := hN1.below hb9
        obtain ⟨rs9, hN10⟩ := putsE_told hN9 hS
        have hb10 := putsE_below hN9 (hw1.trans (hb9.mono hw1s)) (Nat.le_trans hw1s hb9.size) hS
        clear hall hd hS hv9 hC9
        go_wp2
        go_roundw
        case rel => exact ⟨i + 1, rs9, _, by omega, by go_num, hN10, hide Ht2.out.symm, Ha3, hb10⟩
        case measure => simp [RowKit.intOf]; omega
    · have hi2 : i = n := by omega
      have ho2 := ho.out
      have ha2 := ha.out
      rw [List.take_of_length_le (by have := Hlen.out; omega)] at ho2 ha2
      subst hi2
      have hnm := depE_names (l := l) (fun m hm => (hl m hm).1)
      have HD := hide (fun (wx : World) (hx : EnOn wx Ax i (depE l)) => refCheckD_any (depE l) Ax i cx wx hx hnm (by omega))
      unfold Tells at HD
      rw [ho2] at hrd
      have Hno2 := hide Hno.out
      have Hyes2 := hide (Hyes.out ha2)
      have HD2 := hide (HD.out wr hrd)
      have Hrd := hide hrd
      clear ho ha ho2 ha2 hnm HD Hno Hyes Hbad Htk Hat h hl Hl hrd
      cases hok : okE (depE l)
      · rw [hok] at HD2
        have E := hide (Hno2.out hok)
        clear hok Hno2 Hyes2
        go_wp2_with (first
          | (go_at_call 8
             refine HD2.out.mono ?_
             rintro e w1 ⟨rfl, hb1⟩
             have hw1 := hb.trans (hb1.mono hbs)))
        go_ret2
        exact ⟨none, 0, 0, by rw [E.out]; rfl, by rw [E.out]; exact EnOn.nil _ _, hw1⟩
      · rw [hok] at HD2
        have E := hide (Hyes2.out hok)
        clear hok Hno2 Hyes2
        go_wp2_with (first
          | (go_at_call 8
             refine HD2.out.mono ?_
             rintro e w1 ⟨rfl, hb1⟩
             have hw1 := hb.trans (hb1.mono hbs)
             have hrd1 := Hrd.out.on hb1))
        go_ret2
        exact ⟨Ax, i, cx, by rw [E.out]; rfl, by rw [E.out]; exact hrd1, hw1⟩
end Go.Proofs.Ytbagekkcakfhgaa.Depot
