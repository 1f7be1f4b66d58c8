/-
  Some texts of this claim, one behind the other: ClashRefCheck, ClashRefPut, FactRefPut. What each proves, and its condition, stands at its head.
-/
import Derived.Test.YtpicnbidbddggaaGreatY22
import Derived.Test.YtpicnbidbddggaaGreatY23
import Derived.Test.YtpicnbidbddggaaGreatY26
import Derived.Laws.Cover1
import Derived.Test.YtpicnbidbddggaaGreatY24
import Derived.Test.YtpicnbidbddggaaGreatY3
import Derived.Test.YtpicnbidbddggaaGreatY30
/-
  Contracts of the document's Check, Same and Find of clashes. Condition: the slices read as terms, of names of at most 1,000,000,000 bytes and sets of at most 1,000,000,001 spans.
-/
namespace Go.Proofs.YtpicnbidbddggaaGreat.Clash
open Go.Proofs.YtpicnbidbddggaaGreat.Pick (triP empty_lt fit_some)
open Go Go.RowKit Go.Lib Go.Proofs.YtpicnbidbddggaaGreat.Span Go.Proofs.YtpicnbidbddggaaGreat.Need Go.Proofs.YtpicnbidbddggaaGreat.Grow Go.Proofs.YtpicnbidbddggaaGreat.Term
open Go.Proofs.YtpicnbidbddggaaGreat.Label (runes fitL)
set_option linter.unusedVariables false
theorem cell_in {w : World} {p : Addr} {v : Value} (h : w.cell? p = some v) (hp : p.block < w.heap.size) (d : Nat) (os : Array Obj) : (Sort.grow (redrawn w d) os).cell? p = some v :=
  ((below_regrown w d os).cell hp).trans h
def FineT (l : List Tm) : Prop := ∀ t ∈ l, t.name.size ≤ 1000000000 ∧ t.set.length ≤ 1000000001
end Go.Proofs.YtpicnbidbddggaaGreat.Clash
/-
  The contract of the document's put: one more term put to others. Condition: sets of at most 10,000 spans where names are alike; at most 100,000 terms.
-/
namespace Go.Proofs.YtpicnbidbddggaaGreat.Clash
open Go.Proofs.YtpicnbidbddggaaGreat.Pick (triP)
open Go Go.RowKit Go.Lib Go.Proofs.YtpicnbidbddggaaGreat.Span Go.Proofs.YtpicnbidbddggaaGreat.Need Go.Proofs.YtpicnbidbddggaaGreat.Grow Go.Proofs.YtpicnbidbddggaaGreat.Term
open Go.Proofs.YtpicnbidbddggaaGreat.Label (runes fitL)
set_option linter.unusedVariables false
theorem agg_inj3 {u v : Value} {A A' : Option Addr} {n c n' c' : Nat} (h : Value.agg #[u, .slice A n c, v] = .agg #[u, .slice A' n' c', v]) : A = A' ∧ n = n' ∧ c = c' := agg_inj h
theorem six_cells {w wx : World} {B g : Nat} {ad : Addr} {k : Nat} {u1 u2 u3 v1 v2 v3 : Value} (hb : Below B w wx) (had : ad.block < B) (hg : g < B) (h : Blk w g 65 #[v1, v2, v3])
    (c1 : w.cell? (ad.add k) = some u1) (c2 : w.cell? ⟨(ad.add k).block, (ad.add k).off + 1, none⟩ = some u2) (c3 : w.cell? ⟨(ad.add k).block, (ad.add k).off + 2, none⟩ = some u3) :
    wx.cell? (ad.add k) = some u1 ∧ wx.cell? ⟨(ad.add k).block, (ad.add k).off + 1, none⟩ = some u2 ∧ wx.cell? ⟨(ad.add k).block, (ad.add k).off + 2, none⟩ = some u3 ∧
      wx.cell? ⟨g, 0, none⟩ = some v1 ∧ wx.cell? ⟨g, 1, none⟩ = some v2 ∧ wx.cell? ⟨g, 2, none⟩ = some v3 :=
  ⟨(hb.cell (by rw [block_of_add]; exact had)).trans c1, (hb.cell (p := ⟨(ad.add k).block, (ad.add k).off + 1, none⟩) (by simp only [block_of_add]; exact had)).trans c2,
   (hb.cell (p := ⟨(ad.add k).block, (ad.add k).off + 2, none⟩) (by simp only [block_of_add]; exact had)).trans c3,
   ((h.below hb hg).cell 0).trans rfl, ((h.below hb hg).cell 1).trans rfl, ((h.below hb hg).cell 2).trans rfl⟩
end Go.Proofs.YtpicnbidbddggaaGreat.Clash
/-
  The contract of the document's put once more, with the rows' types told. Condition: sets of at most 10,000 spans where names are alike; at most 100,000 terms.
-/
namespace Go.Proofs.YtpicnbidbddggaaGreat.Fact
open Go.Proofs.YtpicnbidbddggaaGreat.Pick (triP)
open Go Go.RowKit Go.Lib Go.Proofs.YtpicnbidbddggaaGreat.Span Go.Proofs.YtpicnbidbddggaaGreat.Need Go.Proofs.YtpicnbidbddggaaGreat.Grow Go.Proofs.YtpicnbidbddggaaGreat.Term Go.Proofs.YtpicnbidbddggaaGreat.Clash
open Go.Proofs.YtpicnbidbddggaaGreat.Label (runes fitL)
set_option linter.unusedVariables false
set_option maxHeartbeats 16000000 in
set_option maxRecDepth 100000 in
theorem refPutR_any (l : List Tm) (nm : ByteArray) (s : List S) (z : Bool) (A An : Option Addr) (n c nn cn : Nat) (w : World) (h : TmR w w.heap.size A n l) (hs : InS w 0 An nn s)
    (hl : ∀ q ∈ l, q.set.length ≤ 10000) (hnn : nn ≤ 10000) (hn : n ≤ 100000) :
    Calls Tryz.prog 63 #[.slice A n c, .agg #[.string nm, .slice An nn cn, .bool z]] w fun e w' =>
      ∃ A' n' c', e = .returned (.slice A' n' c') ∧ TmR w' w'.heap.size A' n' (putC ⟨nm, s, z⟩ false l) ∧ Below w.heap.size w w' := by
  obtain ⟨i0, hi0, hz0, hz1, hz2⟩ := info_parts info_term
  have hlen := hide h.len
  have HD := hide (fun i x f => @putC_drop l ⟨nm, s, z⟩ x i f)
  obtain ⟨M, hM⟩ : ∃ M, M = putC ⟨nm, s, z⟩ false l := ⟨_, rfl⟩
  have HM : Hid ([] ++ putC ⟨nm, s, z⟩ false (l.drop 0) = M) := hide (by rw [hM]; simp)
  have Hend : ∀ b, Hid (putC ⟨nm, s, z⟩ b (l.drop n) = if b = true then [] else [⟨nm, s, z⟩]) := fun b => hide (by rw [List.drop_of_length_le (by have := hlen.out; omega)]; exact putC_end _ _)
  rw [← hM]
  clear hM
  have hB0 := Blk.new w 65 #[.string nm, .slice An nn cn, .bool z]
  have hb0 := alloc_b (w := w) (.cells #[.string nm, .slice An nn cn, .bool z] 65)
  go_enter Tryz.func63, Tryz.ntmps63
  go_wp2
  go_loopw [5, 6, 7] (fun u b v wr => ∃ (i m : Nat) (inn : Bool) (rs : List Rt) (out : List Tm), i ≤ n ∧ m ≤ 2 * i ∧ b = .bool inn ∧ v = .int .i64 (i : Int) ∧ TmsR wr (w.heap.size + 1) u m rs out ∧ Hid (out ++ putC ⟨nm, s, z⟩ inn (l.drop i) = M) ∧ Blk wr w.heap.size 65 #[.string nm, .slice An nn cn, .bool z] ∧ Below w.heap.size w wr) (fun _ _ v _ => n - (RowKit.intOf v).toNat)
  case atStart => exact ⟨0, 0, false, [], [], by omega, by omega, rfl, rfl, TmsR.nil_ _ _, HM, hB0, hb0⟩
  case round =>
    clear hB0 hb0 HM
    obtain ⟨i, m, inn, rs, out, hi, hm, rfl, rfl, hN, hM, hB, hb⟩ := hrel
    obtain ⟨Ax, cx, rfl, hcx, hx⟩ := hN.told
    have hbs := hb.size
    have hBl := hB.lt
    have Ht : Hid (∀ wx, Below (w.heap.size + 1) wr wx → InS wx 0 An nn s) := hide (fun wx hbx => hs.below (hb.trans (hbx.mono (by omega))))
    by_cases hlt : i < n
    · obtain ⟨ad, x, A', n', c', rfl, hbl, hq, ht, c1, c2, c3, hty⟩ := TmR.at_ (TmR.below h hb (Nat.le_refl _) hb.size) hlt
      have hql := hl x (List.mem_of_getElem? hq)
      have hd := (congrArg (out ++ ·) (HD.out i x inn hq)).symm.trans hM.out
      obtain ⟨xn, xs, xz⟩ := x
      simp only [] at c1 c2 c3 ht hql hd
      have htl := ht.1
      have Hx : Hid (∀ wx, Below (w.heap.size + 1) wr wx → InS wx 0 A' n' xs) := hide (fun wx hbx => insLow (ht.more (by omega)) hty (by omega) hbx (by have := hbx.size; omega))
      have HX := hide (fun (wx : World) (hbx : Below (w.heap.size + 1) wr wx) => six_cells (k := i * 3) hbx (by omega) (by omega) hB c1 c2 c3)
      have HE := hide (fun (wx : World) (hbx : Below (w.heap.size + 1) wr wx) => refMeetT_any xn nm xs s xz z A' An n' c' nn cn wx ((ht.below (hbx.mono (by omega))).more (by have := hbx.size; omega)) (((SpIn.below hs.1 hb).below (hbx.mono (by omega))).more (by have := hbx.size; omega)) (by omega) hnn)
      unfold MakesT at HE
      have htri := triP nm xn
      have he := eq_names xn nm
      have hi1 : (0 : Int) ≤ (i : Int) := by omega
      have hi2 : (i : Int) < (n : Int) := by omega
      clear hq ht hty hql htl hx HD hs h hl hM c1 c2 c3
      by_cases hxn : xn = nm
      · have Hd := hide (show out ++ meetT ⟨xn, xs, xz⟩ ⟨nm, s, z⟩ :: putC ⟨nm, s, z⟩ true (l.drop (i + 1)) = M by rw [if_pos hxn] at hd; exact hd)
        rw [decide_eq_true hxn] at he
        clear hd hxn htri
        have h0 : Below (w.heap.size + 1) wr wr := Below.refl _ _
        go_upto_region 6 with fail
        obtain ⟨c1, c2, c3, b0, b1, b2⟩ := HX.out _ h0
        have hsw10 := h0.size
        have q1 := cell_in c1 (by rw [block_of_add]; omega)
        have q2 := cell_in c2 (by simp only [block_of_add]; omega)
        have q3 := cell_in c3 (by simp only [block_of_add]; omega)
        have q4 := cell_in b0 (by show w.heap.size < _; omega)
        have q5 := cell_in b1 (by show w.heap.size < _; omega)
        have q6 := cell_in b2 (by show w.heap.size < _; omega)
        clear c1 c2 c3 b0 b1 b2
        refine wp_region_grow [] []
          (by kernel_rfl) (by kernel_rfl) rfl (by kernel_rfl) (by kernel_rfl) trivial ?_
        repeat (first
          | (refine lex_skip rfl ?_; simp only [Act.put, List.setIfInBounds_toArray, List.set_cons_zero, List.set_cons_succ])
          | (refine lex_quiet rfl rfl rfl (fun K hK => ?_); unfold Reg; go_big_quiet_op; refine hK _ ?_; clear hK K))
        refine lex_nil (fun w1 hC9 _ => ?_)
        have hx9 := reg_iff.1 hC9
        have hw1 : Below (w.heap.size + 1) wr w1 := h0.trans (hx9.mono (by omega))
        have Nw1 := hN.below hx9
        have hsw1 := hw1.size
        clear hC9 hx9 q1 q2 q3 q4 q5 q6
        obtain ⟨c1, c2, c3, b0, b1, b2⟩ := HX.out _ hw1
        have q1 := cell_in c1 (by rw [block_of_add]; omega)
        have q2 := cell_in c2 (by simp only [block_of_add]; omega)
        have q3 := cell_in c3 (by simp only [block_of_add]; omega)
        have q4 := cell_in b0 (by show w.heap.size < _; omega)
        have q5 := cell_in b1 (by show w.heap.size < _; omega)
        have q6 := cell_in b2 (by show w.heap.size < _; omega)
        clear c1 c2 c3 b0 b1 b2
        generalize meetT ⟨xn, xs, xz⟩ ⟨nm, s, z⟩ = MM at *
        go_upto_region 7 with fail
        refine wp_region_grow_w [(28, termV MM), (29, rowT 0 MM)] [28, 29] 8 (putsTR (w.heap.size + 1) m rs (.slice Ax m cx) MM) _
          (by kernel_rfl) (by kernel_rfl) rfl (by kernel_rfl) (by kernel_rfl) (by kernel_rfl) rfl rfl (by kernel_rfl) (by kernel_rfl) ⟨termV_stable _, rowT_stable _ _, trivial⟩ ?_
        repeat (first
          | (refine lexK_skip (by decide) rfl ?_; simp only [Act.put, List.setIfInBounds_toArray, List.set_cons_zero, List.set_cons_succ])
          | (refine lexK_quiet (by decide) rfl rfl rfl (fun K hK => ?_); unfold Reg; go_big_quiet_op; refine hK _ ?_; clear hK K)
          | (refine lexK_rel (by decide) rfl rfl (fun w' hb9 hK => ?_) (fun v w' hb9 hv => ?_)
             · unfold grows
               go_simp
               go_at_call 96
               refine (HE.out w' (hw1.trans (hb9.mono (by omega)))).mono ?_
               rintro e w5 ⟨A5, n5, c5, rfl, hN5, hb5⟩
               exact ⟨_, rfl, hb5, A5, n5, c5, rfl, InS.of_new hN5⟩
             obtain ⟨A6, n6, c6, rfl, hI6⟩ := hv
             simp only [Act.put, List.setIfInBounds_toArray, List.set_cons_zero, List.set_cons_succ])
          | (refine lexK_rel (by decide) rfl rfl (fun w' hb9 hK => ?_) (fun v w' hb9 hv => ?_)
             · obtain ⟨A9, n9, c9, e9, hI9⟩ := hK.at_ 28 rfl rfl (agg_d _)
               have e10 : Value.agg #[.string MM.name, .slice A6 n6 c6, .bool MM.none] = .agg #[.string MM.name, .slice A9 n9 c9, .bool MM.none] := e9
               obtain ⟨x1, x2, x3⟩ := agg_inj3 e10
               rw [← x1, ← x2] at hI9
               clear e9 e10 x1 x2 x3 hK
               unfold grows
               go_simp
               exact ⟨alloc_b _, some ⟨w'.heap.size, 0, none⟩, 1, A6, n6, c6, rfl, (reads_term w' MM.name A6 n6 c6 MM.none _ _ rfl).more (by simp), (hI9.any _).below (alloc_b _)⟩
             obtain ⟨A7, c7, A3, n3, c3, rfl, hr7, hI7⟩ := hv
             simp only [Act.put, List.setIfInBounds_toArray, List.set_cons_zero, List.set_cons_succ])
          | (refine lexK_wr rfl rfl (fun w' hb9 hK => ?_) (fun v w' w'' hb9 hv => ?_)
             · obtain ⟨A4, c4, A5, n5, c5, e4, hr4, hI4⟩ := hK.at_ 29 rfl (slice_d _ _ _)
               injection e4 with e5 e6 e7
               subst e5 e7
               have hN4 := Nw1.below hb9
               refine grows_append (.tmp 22) (.tmp 29) _ rfl (w.heap.size + 1) 65 i0 _ 3 48 Tryz.underlying35 hi0 hz0 hz1 hz2 rfl (by omega) _ m (tms rs) rfl hN4.1 _ _ 1 _ _ rfl hr4 (one_term _ _ _ _ _) (by unfold maxLen; omega) (by omega) (by have := hb9.size; omega) ?_
               intro v' w5 hown hg _
               exact ⟨_, _, _, hI4, hown, hg⟩
             obtain ⟨Av, cv, rfl⟩ := putsTR_slice hv
             simp only [Act.put, List.setIfInBounds_toArray, List.set_cons_zero, List.set_cons_succ])
          | (refine lexK_late (by decide) rfl rfl (fun K hK => ?_); go_big_quiet_op; refine hK _ ?_; clear hK K))
        refine lexK_nil (fun w2 w9 v hC9 hall hS hd => ?_)
        have hb9 := reg_iff.1 hC9
        have hv9 := (hd 30 rfl).resolve_right (slice_d _ _ _)
        have hv9' : Value.slice Av (m + 1) cv = v := hv9
        subst hv9'
        have hw9 : Below (w.heap.size + 1) wr w9 := hw1.trans (hb9.mono (by omega))
        have hsw9 := hw9.size
        have N9 := Nw1.below hb9
        obtain ⟨rs9, N10⟩ := putsTR_told N9 hS
        have hw10 : Below (w.heap.size + 1) wr w2 := putsTR_below N9 hw9 (Nat.le_refl _) (by omega) hS
        clear hall hd hS hv9 hC9 q1 q2 q3 q4 q5 q6
        go_wp2
        go_roundw
        case rel => exact ⟨i + 1, m + 1, true, _, _, by omega, by omega, rfl, by go_num, N10, hide (by rw [← Hd.out]; simp), hB.below hw10 (by omega), hb.trans (hw10.mono (by omega))⟩
        case measure => simp [RowKit.intOf]; omega
      · rw [decide_eq_false hxn] at he
        rw [if_neg hxn] at hd
        clear HE
        cases inn with
        | true =>
          have Hd := hide (show out ++ ⟨xn, xs, xz⟩ :: putC ⟨nm, s, z⟩ true (l.drop (i + 1)) = M by rw [if_neg (fun g => by cases g.1)] at hd; exact hd)
          clear hd hxn htri
          have h0 : Below (w.heap.size + 1) wr wr := Below.refl _ _
          go_upto_region 6 with fail
          obtain ⟨c1, c2, c3, b0, b1, b2⟩ := HX.out _ h0
          have hsw10 := h0.size
          have q1 := cell_in c1 (by rw [block_of_add]; omega)
          have q2 := cell_in c2 (by simp only [block_of_add]; omega)
          have q3 := cell_in c3 (by simp only [block_of_add]; omega)
          have q4 := cell_in b0 (by show w.heap.size < _; omega)
          have q5 := cell_in b1 (by show w.heap.size < _; omega)
          have q6 := cell_in b2 (by show w.heap.size < _; omega)
          clear c1 c2 c3 b0 b1 b2
          refine wp_region_grow [] []
            (by kernel_rfl) (by kernel_rfl) rfl (by kernel_rfl) (by kernel_rfl) trivial ?_
          repeat (first
            | (refine lex_skip rfl ?_; simp only [Act.put, List.setIfInBounds_toArray, List.set_cons_zero, List.set_cons_succ])
            | (refine lex_quiet rfl rfl rfl (fun K hK => ?_); unfold Reg; go_big_quiet_op; refine hK _ ?_; clear hK K))
          refine lex_nil (fun w1 hC9 _ => ?_)
          have hx9 := reg_iff.1 hC9
          have hw1 : Below (w.heap.size + 1) wr w1 := h0.trans (hx9.mono (by omega))
          have Nw1 := hN.below hx9
          have hsw1 := hw1.size
          clear hC9 hx9 q1 q2 q3 q4 q5 q6
          go_upto_region 9 with fail
          obtain ⟨c1, c2, c3, b0, b1, b2⟩ := HX.out _ hw1
          have hsw20 := hw1.size
          have q1 := cell_in c1 (by rw [block_of_add]; omega)
          have q2 := cell_in c2 (by simp only [block_of_add]; omega)
          have q3 := cell_in c3 (by simp only [block_of_add]; omega)
          have q4 := cell_in b0 (by show w.heap.size < _; omega)
          have q5 := cell_in b1 (by show w.heap.size < _; omega)
          have q6 := cell_in b2 (by show w.heap.size < _; omega)
          clear c1 c2 c3 b0 b1 b2
          refine wp_region_grow [] []
            (by kernel_rfl) (by kernel_rfl) rfl (by kernel_rfl) (by kernel_rfl) trivial ?_
          repeat (first
            | (refine lex_skip rfl ?_; simp only [Act.put, List.setIfInBounds_toArray, List.set_cons_zero, List.set_cons_succ])
            | (refine lex_quiet rfl rfl rfl (fun K hK => ?_); unfold Reg; go_big_quiet_op; refine hK _ ?_; clear hK K))
          refine lex_nil (fun w2 hC9 _ => ?_)
          have hx9 := reg_iff.1 hC9
          have hw2 : Below (w.heap.size + 1) wr w2 := hw1.trans (hx9.mono (by omega))
          have Nw2 := Nw1.below hx9
          have hsw2 := hw2.size
          clear hC9 hx9 q1 q2 q3 q4 q5 q6
          obtain ⟨c1, c2, c3, b0, b1, b2⟩ := HX.out _ hw2
          go_wp2_with (first
            | (at_builtin
               refine wpList_append_any _ rfl (.tmp 47) (.tmp 52) _ rfl (w.heap.size + 1) 65 i0 _ 3 48 Tryz.underlying35 hi0 hz0 hz1 hz2 rfl (by omega) _ (m) (tms rs) rfl
                 (own_below Nw2.1 (alloc_b _)) _ _ 1 _ _ rfl (reads_term _ xn A' n' c' xz _ _ (by simp)) (one_term _ _ _ _ _) (by unfold maxLen; omega) (by omega) (by simp; omega) ?_
               intro v3 w3 hown3 hg3 hat3
               have hA3 := (alloc_b (w := w2) (.cells #[.string xn, .slice A' n' c', .bool xz] 65))
               have N3 := (Nw2.below hA3).cat (AllT.one (z := xz) (InS.below (Hx.out _ hw2) hA3)) hown3 hg3
               have h3 : Below (w.heap.size + 1) wr w3 := (hw2.trans (hA3.mono (by omega))).grown hg3 (by simp; omega) (fun k hk => (Nw2.1.lt k hk).1)
               have hs3 := h3.size))
          go_roundw
          case rel => exact ⟨i + 1, m + 1, _, _, _, by omega, by omega, rfl, by go_num, N3, hide (by rw [← Hd.out]; simp), hB.below h3 (by omega), hb.trans (h3.mono (by omega))⟩
          case measure => simp [RowKit.intOf]; omega
        | false =>
        rcases htri with ⟨f1, f2, f3⟩ | ⟨f1, f2, f3⟩ | ⟨f1, f2, f3⟩
        · have Hd := hide (show out ++ ⟨nm, s, z⟩ :: ⟨xn, xs, xz⟩ :: putC ⟨nm, s, z⟩ true (l.drop (i + 1)) = M by rw [if_pos ⟨rfl, f1⟩] at hd; exact hd)
          clear hd hxn f2 f3
          have h0 : Below (w.heap.size + 1) wr wr := Below.refl _ _
          go_upto_region 6 with fail
          obtain ⟨c1, c2, c3, b0, b1, b2⟩ := HX.out _ h0
          have hsw10 := h0.size
          have q1 := cell_in c1 (by rw [block_of_add]; omega)
          have q2 := cell_in c2 (by simp only [block_of_add]; omega)
          have q3 := cell_in c3 (by simp only [block_of_add]; omega)
          have q4 := cell_in b0 (by show w.heap.size < _; omega)
          have q5 := cell_in b1 (by show w.heap.size < _; omega)
          have q6 := cell_in b2 (by show w.heap.size < _; omega)
          clear c1 c2 c3 b0 b1 b2
          refine wp_region_grow [] []
            (by kernel_rfl) (by kernel_rfl) rfl (by kernel_rfl) (by kernel_rfl) trivial ?_
          repeat (first
            | (refine lex_skip rfl ?_; simp only [Act.put, List.setIfInBounds_toArray, List.set_cons_zero, List.set_cons_succ])
            | (refine lex_quiet rfl rfl rfl (fun K hK => ?_); unfold Reg; go_big_quiet_op; refine hK _ ?_; clear hK K))
          refine lex_nil (fun w1 hC9 _ => ?_)
          have hx9 := reg_iff.1 hC9
          have hw1 : Below (w.heap.size + 1) wr w1 := h0.trans (hx9.mono (by omega))
          have Nw1 := hN.below hx9
          have hsw1 := hw1.size
          clear hC9 hx9 q1 q2 q3 q4 q5 q6
          go_upto_region 9 with fail
          obtain ⟨c1, c2, c3, b0, b1, b2⟩ := HX.out _ hw1
          have hsw20 := hw1.size
          have q1 := cell_in c1 (by rw [block_of_add]; omega)
          have q2 := cell_in c2 (by simp only [block_of_add]; omega)
          have q3 := cell_in c3 (by simp only [block_of_add]; omega)
          have q4 := cell_in b0 (by show w.heap.size < _; omega)
          have q5 := cell_in b1 (by show w.heap.size < _; omega)
          have q6 := cell_in b2 (by show w.heap.size < _; omega)
          clear c1 c2 c3 b0 b1 b2
          refine wp_region_grow [] []
            (by kernel_rfl) (by kernel_rfl) rfl (by kernel_rfl) (by kernel_rfl) trivial ?_
          repeat (first
            | (refine lex_skip rfl ?_; simp only [Act.put, List.setIfInBounds_toArray, List.set_cons_zero, List.set_cons_succ])
            | (refine lex_quiet rfl rfl rfl (fun K hK => ?_); unfold Reg; go_big_quiet_op; refine hK _ ?_; clear hK K))
          refine lex_nil (fun w2 hC9 _ => ?_)
          have hx9 := reg_iff.1 hC9
          have hw2 : Below (w.heap.size + 1) wr w2 := hw1.trans (hx9.mono (by omega))
          have Nw2 := Nw1.below hx9
          have hsw2 := hw2.size
          clear hC9 hx9 q1 q2 q3 q4 q5 q6
          obtain ⟨c1, c2, c3, b0, b1, b2⟩ := HX.out _ hw2
          go_upto_region 12 with (first
            | (at_builtin
               refine wpList_append_any _ rfl (.tmp 43) (.tmp 45) _ rfl (w.heap.size + 1) 65 i0 _ 3 48 Tryz.underlying35 hi0 hz0 hz1 hz2 rfl (by omega) _ (m) (tms rs) rfl
                 (own_below Nw2.1 (alloc_b _)) _ _ 1 _ _ rfl (reads_term _ nm An nn cn z _ _ (by simp)) (one_term _ _ _ _ _) (by unfold maxLen; omega) (by omega) (by simp; omega) ?_
               intro v3 w3 hown3 hg3 hat3
               have hA3 := (alloc_b (w := w2) (.cells #[.string nm, .slice An nn cn, .bool z] 65))
               have N3 := (Nw2.below hA3).cat (AllT.one (z := z) (InS.below (Ht.out _ hw2) hA3)) hown3 hg3
               have h3 : Below (w.heap.size + 1) wr w3 := (hw2.trans (hA3.mono (by omega))).grown hg3 (by simp; omega) (fun k hk => (Nw2.1.lt k hk).1)
               have hs3 := h3.size
               obtain ⟨c1, c2, c3, b0, b1, b2⟩ := HX.out _ h3
               obtain ⟨A3x, c3x, e3x, _, _⟩ := N3.told
               subst e3x))
          go_wp2_with (first
            | (at_builtin
               refine wpList_append_any _ rfl (.tmp 47) (.tmp 52) _ rfl (w.heap.size + 1) 65 i0 _ 3 48 Tryz.underlying35 hi0 hz0 hz1 hz2 rfl (by omega) _ (m + 1) (tms (rs ++ [(nm, .slice An nn cn, z)])) rfl
                 (own_below N3.1 (alloc_b _)) _ _ 1 _ _ rfl (reads_term _ xn A' n' c' xz _ _ (by simp)) (one_term _ _ _ _ _) (by unfold maxLen; omega) (by omega) (by simp; omega) ?_
               intro v4 w4 hown4 hg4 hat4
               have hA4 := (alloc_b (w := w3) (.cells #[.string xn, .slice A' n' c', .bool xz] 65))
               have N4 := (N3.below hA4).cat (AllT.one (z := xz) (InS.below (Hx.out _ h3) hA4)) hown4 hg4
               have h4 : Below (w.heap.size + 1) wr w4 := (h3.trans (hA4.mono (by omega))).grown hg4 (by simp; omega) (fun k hk => (N3.1.lt k hk).1)
               have hs4 := h4.size))
          go_roundw
          case rel => exact ⟨i + 1, m + 1 + 1, true, _, _, by omega, by omega, rfl, by go_num, N4, hide (by rw [← Hd.out]; simp), hB.below h4 (by omega), hb.trans (h4.mono (by omega))⟩
          case measure => simp [RowKit.intOf]; omega
        · exact absurd (by rw [eq_names] at f3; exact (of_decide_eq_true f3).symm) hxn
        · have Hd := hide (show out ++ ⟨xn, xs, xz⟩ :: putC ⟨nm, s, z⟩ false (l.drop (i + 1)) = M by rw [if_neg (fun g => by have := g.2; unfold nlt at this; rw [f1] at this; cases this)] at hd; exact hd)
          clear hd hxn f2 f3
          have h0 : Below (w.heap.size + 1) wr wr := Below.refl _ _
          go_upto_region 6 with fail
          obtain ⟨c1, c2, c3, b0, b1, b2⟩ := HX.out _ h0
          have hsw10 := h0.size
          have q1 := cell_in c1 (by rw [block_of_add]; omega)
          have q2 := cell_in c2 (by simp only [block_of_add]; omega)
          have q3 := cell_in c3 (by simp only [block_of_add]; omega)
          have q4 := cell_in b0 (by show w.heap.size < _; omega)
          have q5 := cell_in b1 (by show w.heap.size < _; omega)
          have q6 := cell_in b2 (by show w.heap.size < _; omega)
          clear c1 c2 c3 b0 b1 b2
          refine wp_region_grow [] []
            (by kernel_rfl) (by kernel_rfl) rfl (by kernel_rfl) (by kernel_rfl) trivial ?_
          repeat (first
            | (refine lex_skip rfl ?_; simp only [Act.put, List.setIfInBounds_toArray, List.set_cons_zero, List.set_cons_succ])
            | (refine lex_quiet rfl rfl rfl (fun K hK => ?_); unfold Reg; go_big_quiet_op; refine hK _ ?_; clear hK K))
          refine lex_nil (fun w1 hC9 _ => ?_)
          have hx9 := reg_iff.1 hC9
          have hw1 : Below (w.heap.size + 1) wr w1 := h0.trans (hx9.mono (by omega))
          have Nw1 := hN.below hx9
          have hsw1 := hw1.size
          clear hC9 hx9 q1 q2 q3 q4 q5 q6
          go_upto_region 9 with fail
          obtain ⟨c1, c2, c3, b0, b1, b2⟩ := HX.out _ hw1
          have hsw20 := hw1.size
          have q1 := cell_in c1 (by rw [block_of_add]; omega)
          have q2 := cell_in c2 (by simp only [block_of_add]; omega)
          have q3 := cell_in c3 (by simp only [block_of_add]; omega)
          have q4 := cell_in b0 (by show w.heap.size < _; omega)
          have q5 := cell_in b1 (by show w.heap.size < _; omega)
          have q6 := cell_in b2 (by show w.heap.size < _; omega)
          clear c1 c2 c3 b0 b1 b2
          refine wp_region_grow [] []
            (by kernel_rfl) (by kernel_rfl) rfl (by kernel_rfl) (by kernel_rfl) trivial ?_
          repeat (first
            | (refine lex_skip rfl ?_; simp only [Act.put, List.setIfInBounds_toArray, List.set_cons_zero, List.set_cons_succ])
            | (refine lex_quiet rfl rfl rfl (fun K hK => ?_); unfold Reg; go_big_quiet_op; refine hK _ ?_; clear hK K))
          refine lex_nil (fun w2 hC9 _ => ?_)
          have hx9 := reg_iff.1 hC9
          have hw2 : Below (w.heap.size + 1) wr w2 := hw1.trans (hx9.mono (by omega))
          have Nw2 := Nw1.below hx9
          have hsw2 := hw2.size
          clear hC9 hx9 q1 q2 q3 q4 q5 q6
          obtain ⟨c1, c2, c3, b0, b1, b2⟩ := HX.out _ hw2
          go_wp2_with (first
            | (at_builtin
               refine wpList_append_any _ rfl (.tmp 47) (.tmp 52) _ rfl (w.heap.size + 1) 65 i0 _ 3 48 Tryz.underlying35 hi0 hz0 hz1 hz2 rfl (by omega) _ (m) (tms rs) rfl
                 (own_below Nw2.1 (alloc_b _)) _ _ 1 _ _ rfl (reads_term _ xn A' n' c' xz _ _ (by simp)) (one_term _ _ _ _ _) (by unfold maxLen; omega) (by omega) (by simp; omega) ?_
               intro v3 w3 hown3 hg3 hat3
               have hA3 := (alloc_b (w := w2) (.cells #[.string xn, .slice A' n' c', .bool xz] 65))
               have N3 := (Nw2.below hA3).cat (AllT.one (z := xz) (InS.below (Hx.out _ hw2) hA3)) hown3 hg3
               have h3 : Below (w.heap.size + 1) wr w3 := (hw2.trans (hA3.mono (by omega))).grown hg3 (by simp; omega) (fun k hk => (Nw2.1.lt k hk).1)
               have hs3 := h3.size))
          go_roundw
          case rel => exact ⟨i + 1, m + 1, _, _, _, by omega, by omega, rfl, by go_num, N3, hide (by rw [← Hd.out]; simp), hB.below h3 (by omega), hb.trans (h3.mono (by omega))⟩
          case measure => simp [RowKit.intOf]; omega
    · have hi2 : i = n := by omega
      have hd := hM.out
      rw [hi2, (Hend inn).out] at hd
      have hE := hide hd
      have b0 := (hB.cell 0).trans (show (#[.string nm, .slice An nn cn, .bool z] : Array Value)[0]? = some (.string nm) from rfl)
      have b1 := (hB.cell 1).trans (show (#[.string nm, .slice An nn cn, .bool z] : Array Value)[1]? = some (.slice An nn cn) from rfl)
      have b2 := (hB.cell 2).trans (show (#[.string nm, .slice An nn cn, .bool z] : Array Value)[2]? = some (.bool z) from rfl)
      have h0 : Below (w.heap.size + 1) wr wr := Below.refl _ _
      clear hd hM Hend HD hs h hl
      cases inn with
      | true =>
        have e : Hid (out = M) := hide (by have := hE.out; simpa using this)
        clear hE
        go_wp2
        go_ret
        exact ⟨Ax, m, cx, rfl, by rw [← e.out]; exact hx, hb⟩
      | false =>
        have e : Hid (out ++ [⟨nm, s, z⟩] = M) := hide (by have := hE.out; simpa using this)
        clear hE
        go_wp2_with (first
          | (at_builtin
             refine wpList_append_any _ rfl (.tmp 56) (.tmp 58) _ rfl (w.heap.size + 1) 65 i0 _ 3 48 Tryz.underlying35 hi0 hz0 hz1 hz2 rfl (by omega) _ (m) (tms rs) rfl
               (own_below hN.1 (alloc_b _)) _ _ 1 _ _ rfl (reads_term _ nm An nn cn z _ _ (by simp)) (one_term _ _ _ _ _) (by unfold maxLen; omega) (by omega) (by simp; omega) ?_
             intro v3 w3 hown3 hg3 hat3
             have hA3 := (alloc_b (w := wr) (.cells #[.string nm, .slice An nn cn, .bool z] 65))
             have N3 := (hN.below hA3).cat (AllT.one (z := z) (InS.below (Ht.out _ h0) hA3)) hown3 hg3
             have h3 : Below (w.heap.size + 1) wr w3 := (h0.trans (hA3.mono (by omega))).grown hg3 (by simp; omega) (fun k hk => (hN.1.lt k hk).1)
             have hs3 := h3.size))
        obtain ⟨A3x, c3x, e3x, _, t3x⟩ := N3.told
        subst e3x
        rw [e.out] at t3x
        go_wp2
        go_ret
        exact ⟨A3x, m + 1, c3x, rfl, t3x, hb.trans (h3.mono (by omega))⟩
end Go.Proofs.YtpicnbidbddggaaGreat.Fact
