/-
  Some texts of this claim, one behind the other: WireRefPut. What each proves, and its condition, stands at its head.
-/
import Derived.Test.YtbagekkcakfhgaaZ24
import Derived.Test.YtbagekkcakfhgaaZ25
/-
  The contracts of the document's needs and Put: they answer the bytes of the plain mathematics. Condition: needs that may be; what its Check tells.
-/
namespace Go.Proofs.Ytbagekkcakfhgaa.Wire
open Go Go.RowKit Go.Lib Go.Proofs.Ytbagekkcakfhgaa.Span Go.Proofs.Ytbagekkcakfhgaa.Need Go.Proofs.Ytbagekkcakfhgaa.Mani Go.Proofs.Ytbagekkcakfhgaa.Grow
open Go.Proofs.Ytbagekkcakfhgaa.Vlq (enc held refText_any refNum_any)
set_option linter.unusedVariables false
theorem refText_B (nm : ByteArray) (w : World) (h : nm.size ≤ 24) : Calls Try.prog 49 #[.string nm] w fun e w' => e = .returned (.string (str (textB nm))) ∧ Below w.heap.size w w' := refText_any nm w (by omega)
theorem refNum_B (n : Int) (w : World) : Calls Try.prog 50 #[.int .i64 n] w fun e w' => e = .returned (.string (str (encN n))) ∧ Below w.heap.size w w' := refNum_any n w
theorem str_two (a b c : List UInt8) (h : a ++ b = c) : str a ++ str b = str c := by rw [str_append, h]
theorem str_three (a b c d : List UInt8) (h : a ++ (b ++ c) = d) : str a ++ str b ++ str c = str d := by rw [str_append, str_append, List.append_assoc, h]
theorem flat_needs_len (l : List Nd) (h : ∀ q ∈ l, NeedOk q) (hn : l.length ≤ 6) (k : Nat) : (flat needB (l.take k)).length ≤ 6 * 86 := by
  have h1 := flat_len needB (l.take k) 86 (fun x hx => needB_len x (h x (List.mem_of_mem_take hx)))
  have h2 : (l.take k).length ≤ 6 := by rw [List.length_take]; omega
  exact Nat.le_trans h1 (Nat.mul_le_mul_right _ h2)
theorem flat_spans_len (l : List S) (h : ∀ q ∈ l, SpanOk q) (hn : l.length ≤ 6) (k : Nat) : (flat spanB (l.take k)).length ≤ 6 * 10 := by
  have h1 := flat_len spanB (l.take k) 10 (fun x hx => spanB_len x (h x (List.mem_of_mem_take hx)))
  have h2 : (l.take k).length ≤ 6 := by rw [List.length_take]; omega
  exact Nat.le_trans h1 (Nat.mul_le_mul_right _ h2)
theorem flat_rels_len (l : List Rl) (h : ∀ q ∈ l, RelOk q) (hn : l.length ≤ 8) (k : Nat) : (flat relB (l.take k)).length ≤ 8 * 522 := by
  have h1 := flat_len relB (l.take k) 522 (fun x hx => relB_len x (h x (List.mem_of_mem_take hx)))
  have h2 : (l.take k).length ≤ 8 := by rw [List.length_take]; omega
  exact Nat.le_trans h1 (Nat.mul_le_mul_right _ h2)
set_option maxHeartbeats 4000000 in
set_option maxRecDepth 100000 in
theorem refNeeds_any (l : List Nd) (A : Option Addr) (n c : Nat) (w : World) (h : NdOn w A n l) (hn : n ≤ 6) (hs : ∀ q ∈ l, NeedOk q) :
    Calls Try.prog 51 #[.slice A n c] w (Tells w (.string (str (listB needB l)))) := by
  unfold Tells
  have hlen := h.len
  have Hlen := hide hlen
  have hfl := flat_needs_len l hs (by omega)
  have hsx := encN_six (n : Int)
  have el : listB needB l = encN (n : Int) ++ flat needB l := by unfold listB; rw [hlen]
  rw [el]
  have HN := hide (fun (z : Int) (wx : World) => refNum_B z wx)
  have HT := hide (fun (nm : ByteArray) (wx : World) (hnm : nm.size ≤ 24) => refText_B nm wx hnm)
  generalize hX : encN (n : Int) = X at *
  have HX := hide hX
  clear hlen el hX
  go_enter Try.func51, Try.ntmps51
  go_wp2_with (first
    | (go_at_call 50
       refine (HN.out _ _).mono ?_
       rintro e w1 ⟨rfl, hb1⟩
       rw [HX.out]))
  go_loopw [3, 4] (fun s t wx => ∃ i : Nat, i ≤ n ∧ t = .int .i64 (i : Int) ∧ s = .string (str (X ++ flat needB (l.take i))) ∧ Below w.heap.size w wx) (fun _ t => fun _ => n - (RowKit.intOf t).toNat)
  case atStart => exact ⟨0, by omega, rfl, by simp [flat], hb1⟩
  case round =>
    obtain ⟨i, hi, rfl, rfl, hb⟩ := hrel
    have hbs := hb.size
    clear hb1
    by_cases hlt : i < n
    · obtain ⟨ad, q, A2, n2, k2, rfl, hbl, hx, hs2, c1, c2⟩ := NdIn.at_ (NdIn.below h hb) hlt
      have hq := hs q (List.mem_of_getElem? hx)
      have Hft := hide (flat_take needB l i q hx)
      have hf1 := hfl i
      obtain ⟨hq3, hq4, hq5⟩ := hq
      obtain ⟨nm, s⟩ := q
      simp only [] at c1 c2 hs2 hq3 hq4 hq5
      have hfs := flat_spans_len s hq5 hq4
      have hsl := hs2.1
      have Hsl := hide hsl
      have HTn := hide (fun (wx : World) => HT.out nm wx hq3)
      have hl1 := textB_len nm hq3
      have hl2 := encN_six (n2 : Int)
      have HNk := hide (fun (wx : World) => HN.out (n2 : Int) wx)
      obtain ⟨Y, hY⟩ : ∃ Y, Y = X ++ flat needB (l.take i) ++ (textB nm ++ encN (n2 : Int)) := ⟨_, rfl⟩
      have hYl : Y.length ≤ 1000 := by rw [hY]; simp only [List.length_append]; omega
      have Hcat := hide (str_three (X ++ flat needB (l.take i)) (textB nm) (encN (n2 : Int)) Y (by rw [hY]))
      have Hend : Hid (Y ++ flat spanB s = X ++ flat needB (l.take (i + 1))) := hide (by
        rw [Hft.out, hY]
        show X ++ flat needB (l.take i) ++ (textB nm ++ encN (n2 : Int)) ++ flat spanB s = X ++ (flat needB (l.take i) ++ (textB nm ++ (encN (s.length : Int) ++ flat spanB s)))
        rw [hsl]
        simp only [List.append_assoc])
      have hz1 : (str (X ++ flat needB (l.take i))).size ≤ 1000 := by rw [str_size, List.length_append]; omega
      have hz2 : (str (textB nm)).size ≤ 25 := by rw [str_size]; exact hl1
      have hz3 : (str (encN (n2 : Int))).size ≤ 6 := by rw [str_size]; exact hl2
      have hz4 : (str (X ++ flat needB (l.take i)) ++ str (textB nm)).size ≤ 2000 := by rw [str_append, str_size]; simp only [List.length_append]; omega
      clear hY hf1 hfl hx hs hl1 hl2 Hft
      generalize str (X ++ flat needB (l.take i)) = P at *
      generalize str (textB nm) = P2 at *
      generalize str (encN (n2 : Int)) = P3 at *
      have q1 := cell_reg_ c1 (by rw [block_of_add]; omega)
      have q2 := cell_reg_ c2 (by simp only [block_of_add]; omega)
      have hi1 : (0 : Int) ≤ (i : Int) := by omega
      have hi2 : (i : Int) < (n : Int) := by omega
      have C1 := hide c1
      have C2 := hide c2
      clear c1 c2
      go_upto_region 5 with fail
      refine wp_region_grow [(22, isC (.string P2)), (30, isC (.string P3))] [22, 30]
        (by kernel_rfl) (by kernel_rfl) rfl (by kernel_rfl) (by kernel_rfl) ⟨isC_stable _, isC_stable _, trivial⟩ ?_
      repeat (first
        | (refine lex_skip rfl ?_; simp only [Act.put, List.setIfInBounds_toArray, List.set_cons_zero, List.set_cons_succ])
        | (refine lex_quiet rfl rfl rfl (fun K hK => ?_); unfold Reg; go_big_quiet_op; refine hK _ ?_; clear hK K)
        | (refine lex_rel rfl rfl (fun w' hb9 hK => ?_) (fun v w' hb9 hv => ?_)
           · unfold grows
             go_simp
             first
               | (go_at_call 49; exact call_isC (HTn.out w'))
               | (go_at_call 50; exact call_isC (HNk.out w'))
           obtain rfl := hv
           simp only [Act.put, List.setIfInBounds_toArray, List.set_cons_zero, List.set_cons_succ]))
      refine lex_nil (fun w9 hC9 _ => ?_)
      have hb9 := reg_iff.1 hC9
      clear hC9
      clear q1 q2 hi1 hi2 hz1 hz2 hz3 hz4
      have hbr := hb.trans (hb9.mono hbs)
      have hbl9 : ad.block < wr.heap.size := by omega
      have c2 := (hb9.cell (p := ⟨(ad.add (i * 2)).block, (ad.add (i * 2)).off + 1, none⟩) (by simp only [block_of_add]; omega)).trans C2.out
      have hs3 := hs2.more hbs
      have HP3 := hide (show P ++ P2 ++ P3 = str Y from Hcat.out)
      have hb9s := hb9.size
      clear hs2 hbl Hcat
      have hs9 : SpOn w9 A2 n2 s := SpOn.on hs3 hb9
      have hb9l : ad.block < w9.heap.size := by omega
      have C2' := hide c2
      clear hs3 hb9 c2 C1 C2 hb hbs hbl9 hb9s
      go_wp2
      go_loopw [3, 5] (fun s5 t5 wx => ∃ j : Nat, j ≤ n2 ∧ t5 = .int .i64 (j : Int) ∧ s5 = .string (str (Y ++ flat spanB (s.take j))) ∧ Below w9.heap.size w9 wx) (fun _ t5 => fun _ => n2 - (RowKit.intOf t5).toNat)
      case atStart => exact ⟨0, by omega, rfl, by rw [HP3.out]; simp [flat], Below.refl _ _⟩
      case round =>
        obtain ⟨j, hj, rfl, rfl, hbj⟩ := hrel
        have hbjs := hbj.size
        have c2 := (hbj.cell (p := ⟨(ad.add (i * 2)).block, (ad.add (i * 2)).off + 1, none⟩) (by simp only [block_of_add]; omega)).trans C2'.out
        have hi1 : (0 : Int) ≤ (i : Int) := by omega
        have hi2 : (i : Int) < (n : Int) := by omega
        by_cases hjl : j < n2
        · obtain ⟨ad2, z, rfl, hbl2, hz, d1, d2⟩ := SpIn.at_ (SpIn.below hs9 hbj) hjl
          have hzq := hq5 z (List.mem_of_getElem? hz)
          have Hst := hide (flat_take spanB s j z hz)
          have hf2 := hfs j
          obtain ⟨lo, hi9⟩ := z
          obtain ⟨g1, g2, g3⟩ := hzq
          simp only [] at d1 d2 g1 g2 g3
          have hl1 := encN_six lo
          have hl2 := encN_six (hi9 - lo)
          have HN1 := hide (fun (wx : World) => HN.out lo wx)
          have HN2 := hide (fun (wx : World) => HN.out (hi9 - lo) wx)
          have Hcat := hide (str_three (Y ++ flat spanB (s.take j)) (encN lo) (encN (hi9 - lo)) (Y ++ flat spanB (s.take (j + 1))) (by
            rw [Hst.out]
            show Y ++ flat spanB (s.take j) ++ (encN lo ++ encN (hi9 - lo)) = Y ++ (flat spanB (s.take j) ++ (encN lo ++ encN (hi9 - lo)))
            simp only [List.append_assoc]))
          have hz1 : (str (Y ++ flat spanB (s.take j))).size ≤ 2000 := by rw [str_size, List.length_append]; omega
          have hz2 : (str (encN lo)).size ≤ 6 := by rw [str_size]; exact hl1
          have hz3 : (str (encN (hi9 - lo))).size ≤ 6 := by rw [str_size]; exact hl2
          have hz4 : (str (Y ++ flat spanB (s.take j)) ++ str (encN lo)).size ≤ 3000 := by rw [str_append, str_size]; simp only [List.length_append]; omega
          clear hf2 hl1 hl2 Hst hz
          generalize str (Y ++ flat spanB (s.take j)) = R1 at *
          generalize str (encN lo) = R2 at *
          generalize str (encN (hi9 - lo)) = R3 at *
          have hj1 : (0 : Int) ≤ (j : Int) := by omega
          have hj2 : (j : Int) < (n2 : Int) := by omega
          go_upto_region 10 with fail
          obtain ⟨wq, hwq⟩ : ∃ wq, wq = wr.alloc (.cells #[.int .i64 lo, .int .i64 hi9] 88) := ⟨_, rfl⟩
          have hBq : Blk wq wr.heap.size 88 #[.int .i64 lo, .int .i64 hi9] := by rw [hwq]; exact Blk.new _ _ _
          have hbwq : Below w9.heap.size w9 wq := by rw [hwq]; exact hbj.alloc hbjs _
          rw [← hwq]
          clear hwq c2 d1 d2
          have q1 := cell_reg_ ((hBq.cell 0).trans rfl) hBq.lt
          have q2 := cell_reg_ ((hBq.cell 1).trans rfl) hBq.lt
          refine wp_region_grow [(53, isC (.string R2)), (60, isC (.string R3))] [53, 60]
            (by kernel_rfl) (by kernel_rfl) rfl (by kernel_rfl) (by kernel_rfl) ⟨isC_stable _, isC_stable _, trivial⟩ ?_
          repeat (first
            | (refine lex_skip rfl ?_; simp only [Act.put, List.setIfInBounds_toArray, List.set_cons_zero, List.set_cons_succ])
            | (refine lex_quiet rfl rfl rfl (fun K hK => ?_); unfold Reg; go_big_quiet_op; refine hK _ ?_; clear hK K)
            | (refine lex_rel rfl rfl (fun w' hb9 hK => ?_) (fun v w' hb9 hv => ?_)
               · unfold grows
                 go_simp
                 first
                   | (go_at_call_of 50 (Value.int .i64 lo); exact call_isC (HN1.out w'))
                   | (go_at_call 50; exact call_isC (HN2.out w'))
               obtain rfl := hv
               simp only [Act.put, List.setIfInBounds_toArray, List.set_cons_zero, List.set_cons_succ]))
          refine lex_nil (fun w9 hC9 _ => ?_)
          have hb9 := reg_iff.1 hC9
          clear hC9
          clear q1 q2 hi1 hi2 hj1 hj2 hz1 hz2 hz3 hz4
          have hbj9 := hbwq.trans (hb9.mono hbwq.size)
          clear hb9 hBq
          go_wp2
          go_roundw
          case rel => exact ⟨j + 1, by omega, by go_num, by rw [Hcat.out], hbj9⟩
          case measure => simp [RowKit.intOf]; omega
        · have hj3 : j = n2 := by omega
          subst hj3
          rw [List.take_of_length_le (by rw [Hsl.out]; exact Nat.le_refl _), Hend.out]
          have hbe := hbr.trans (hbj.mono hbr.size)
          go_wp2
          go_roundw
          case rel => exact ⟨i + 1, by omega, by go_num, rfl, hbe⟩
          case measure => simp [RowKit.intOf]; omega
    · have hi3 : i = n := by omega
      subst hi3
      rw [List.take_of_length_le (by rw [Hlen.out]; exact Nat.le_refl _)]
      go_wp2
      go_ret
      exact ⟨rfl, hb⟩
set_option maxHeartbeats 1600000 in
theorem refPutNone_any (nm : ByteArray) (A : Option Addr) (n c : Nat) (l : List Rl) (w : World) (hC : ∀ wx, Below w.heap.size w wx → Calls Try.prog 36 #[.agg #[.string nm, .slice A n c]] wx (Tells wx (.bool false))) :
    Calls Try.prog 32 #[.agg #[.string nm, .slice A n c]] w (Tells w (.string (str []))) := by
  unfold Tells at hC ⊢
  have HC := hide hC
  clear hC
  go_enter Try.func32, Try.ntmps32
  go_wp2_with (first
    | (go_at_call 36
       refine (HC.out _ (alloc_b _)).mono ?_
       rintro e w1 ⟨rfl, hb1⟩
       have hbb : Below w.heap.size w w1 := (alloc_b _).trans (hb1.mono (by simp))))
  go_ret
  exact ⟨rfl, hbb⟩
set_option maxHeartbeats 4000000 in
set_option maxRecDepth 100000 in
theorem refPutMan_any (nm : ByteArray) (A : Option Addr) (n c : Nat) (l : List Rl) (w : World) (h : RlOn w A n l) (hC : ∀ wx, Below w.heap.size w wx → Calls Try.prog 36 #[.agg #[.string nm, .slice A n c]] wx (Tells wx (.bool true)))
    (hnm : nm.size ≤ 24) (hn : n ≤ 8) (hs : ∀ q ∈ l, RelOk q) :
    Calls Try.prog 32 #[.agg #[.string nm, .slice A n c]] w (Tells w (.string (str (manB nm l)))) := by
  unfold Tells at hC ⊢
  have HC := hide hC
  clear hC
  have hlen := h.len
  have Hlen := hide hlen
  have hfl := flat_rels_len l hs (by omega)
  have HN := hide (fun (z : Int) (wx : World) => refNum_B z wx)
  have HT := hide (fun (wx : World) => refText_B nm wx hnm)
  have HL := hide (fun (s : List Nd) A2 n2 k2 (wx : World) (hx : NdOn wx A2 n2 s) hy hz => refNeeds_any s A2 n2 k2 wx hx hy hz)
  unfold Tells at HL
  obtain ⟨X, hX⟩ : ∃ X, X = textB nm ++ encN (n : Int) := ⟨_, rfl⟩
  have el : manB nm l = X ++ flat relB l := by unfold manB listB; rw [hlen, hX, List.append_assoc]
  have Hcat := hide (str_two (textB nm) (encN (n : Int)) X hX.symm)
  have hl1 := textB_len nm hnm
  have hl2 := encN_six (n : Int)
  have hXl : X.length ≤ 100 := by rw [hX, List.length_append]; omega
  have hz2 : (str (textB nm)).size ≤ 25 := by rw [str_size]; exact hl1
  have hz3 : (str (encN (n : Int))).size ≤ 6 := by rw [str_size]; exact hl2
  have HN0 := hide (fun (wx : World) => HN.out (n : Int) wx)
  rw [el]
  clear hlen el hX hl1 hl2
  generalize str (textB nm) = P2 at *
  generalize str (encN (n : Int)) = P3 at *
  go_enter Try.func32, Try.ntmps32
  go_upto_region 3 with (first
    | (go_at_call 36
       refine (HC.out _ (alloc_b _)).mono ?_
       rintro e w1 ⟨rfl, hb1⟩
       have hB1 : Blk w1 w.heap.size 28 #[.string nm, .slice A n c] := (Blk.new w _ _).below hb1 (by simp)
       have hbw : Below w.heap.size w w1 := (alloc_b _).trans (hb1.mono (by simp))))
  have hbs := hbw.size
  have q1 := cell_reg_ ((hB1.cell 0).trans rfl) hB1.lt
  have q2 := cell_reg_ ((hB1.cell 1).trans rfl) hB1.lt
  refine wp_region_grow [(10, isC (.string P2)), (14, isC (.string P3))] [10, 14]
    (by kernel_rfl) (by kernel_rfl) rfl (by kernel_rfl) (by kernel_rfl) ⟨isC_stable _, isC_stable _, trivial⟩ ?_
  repeat (first
    | (refine lex_skip rfl ?_; simp only [Act.put, List.setIfInBounds_toArray, List.set_cons_zero, List.set_cons_succ])
    | (refine lex_quiet rfl rfl rfl (fun K hK => ?_); unfold Reg; go_big_quiet_op; refine hK _ ?_; clear hK K)
    | (refine lex_rel rfl rfl (fun w' hb9 hK => ?_) (fun v w' hb9 hv => ?_)
       · unfold grows
         go_simp
         first
           | (go_at_call 49; exact call_isC (HT.out w'))
           | (go_at_call 50; exact call_isC (HN0.out w'))
       obtain rfl := hv
       simp only [Act.put, List.setIfInBounds_toArray, List.set_cons_zero, List.set_cons_succ]))
  refine lex_nil (fun w9 hC9 _ => ?_)
  have hb9 := reg_iff.1 hC9
  clear hC9
  clear q1 q2 hz2 hz3
  have hB0 := hB1.below hb9 hB1.lt
  have hb0 := hbw.trans (hb9.mono hbs)
  clear hB1 hbw hb9 hb1 hbs HC HT HN0
  go_wp2
  go_loopw [3, 4] (fun s t wx => ∃ i : Nat, i ≤ n ∧ t = .int .i64 (i : Int) ∧ s = .string (str (X ++ flat relB (l.take i))) ∧ Blk wx w.heap.size 28 #[.string nm, .slice A n c] ∧ Below w.heap.size w wx) (fun _ t => fun _ => n - (RowKit.intOf t).toNat)
  case atStart => exact ⟨0, by omega, rfl, by rw [Hcat.out]; simp [flat], hB0, hb0⟩
  case round =>
    obtain ⟨i, hi, rfl, rfl, hB, hb⟩ := hrel
    have hbs := hb.size
    have m2 := (hB.cell 1).trans (show (#[Value.string nm, .slice A n c] : Array Value)[1]? = some (.slice A n c) from rfl)
    clear hB0 hb0 Hcat
    by_cases hlt : i < n
    · obtain ⟨ad, q, A2, n2, k2, rfl, hbl, hx, hs2, c1, c2⟩ := RlIn.at_ (RlIn.below h hb) hlt
      have hq := hs q (List.mem_of_getElem? hx)
      have Hft := hide (flat_take relB l i q hx)
      have hf1 := hfl i
      obtain ⟨hq3, hq4, hq5⟩ := hq
      obtain ⟨z, s⟩ := q
      simp only [] at c1 c2 hs2 hq3 hq4 hq5
      have hsl := hs2.len
      have HNz := hide (fun (wx : World) => HN.out z wx)
      have HLs := hide (fun (wx : World) (hbx : Below wr.heap.size wr wx) => HL.out s A2 n2 k2 wx (NdOn.on (hs2.more hbs) hbx) (by omega) hq5)
      have hl2 := encN_six z
      have hl3 := listB_len needB s 86 6 (fun x hx => needB_len x (hq5 x hx)) hq4 (by omega)
      have Hcat := hide (str_three (X ++ flat relB (l.take i)) (encN z) (listB needB s) (X ++ flat relB (l.take (i + 1))) (by
        rw [Hft.out]
        show X ++ flat relB (l.take i) ++ (encN z ++ listB needB s) = X ++ (flat relB (l.take i) ++ (encN z ++ listB needB s))
        simp only [List.append_assoc]))
      have hz1 : (str (X ++ flat relB (l.take i))).size ≤ 10000 := by rw [str_size, List.length_append]; omega
      have hz2 : (str (encN z)).size ≤ 6 := by rw [str_size]; exact hl2
      have hz3 : (str (listB needB s)).size ≤ 1000 := by rw [str_size]; omega
      have hz4 : (str (X ++ flat relB (l.take i)) ++ str (encN z)).size ≤ 20000 := by rw [str_append, str_size]; simp only [List.length_append]; omega
      clear hf1 hx hl2 hl3 Hft hsl
      generalize str (X ++ flat relB (l.take i)) = R1 at *
      generalize str (encN z) = R2 at *
      generalize str (listB needB s) = R3 at *
      have q1 := cell_reg_ c1 (by rw [block_of_add]; omega)
      have q2 := cell_reg_ c2 (by simp only [block_of_add]; omega)
      have q3 := cell_reg_ m2 hB.lt
      have hi1 : (0 : Int) ≤ (i : Int) := by omega
      have hi2 : (i : Int) < (n : Int) := by omega
      clear c1 c2
      go_upto_region 7 with fail
      refine wp_region_grow [(30, isC (.string R2)), (38, isC (.string R3))] [30, 38]
        (by kernel_rfl) (by kernel_rfl) rfl (by kernel_rfl) (by kernel_rfl) ⟨isC_stable _, isC_stable _, trivial⟩ ?_
      repeat (first
        | (refine lex_skip rfl ?_; simp only [Act.put, List.setIfInBounds_toArray, List.set_cons_zero, List.set_cons_succ])
        | (refine lex_quiet rfl rfl rfl (fun K hK => ?_); unfold Reg; go_big_quiet_op; refine hK _ ?_; clear hK K)
        | (refine lex_rel rfl rfl (fun w' hb9 hK => ?_) (fun v w' hb9 hv => ?_)
           · unfold grows
             go_simp
             first
               | (go_at_call 50; exact call_isC (HNz.out w'))
               | (go_at_call 51; exact call_isC (HLs.out w' hb9))
           obtain rfl := hv
           simp only [Act.put, List.setIfInBounds_toArray, List.set_cons_zero, List.set_cons_succ]))
      refine lex_nil (fun w9 hC9 _ => ?_)
      have hb9 := reg_iff.1 hC9
      clear hC9
      clear q1 q2 q3 hi1 hi2 hz1 hz2 hz3 hz4 m2
      have hbr := hb.trans (hb9.mono hbs)
      have hBr := hB.below hb9 hB.lt
      clear hs2 hbl hb9 hB
      go_wp2
      go_roundw
      case rel => exact ⟨i + 1, by omega, by go_num, by rw [Hcat.out], hBr, hbr⟩
      case measure => simp [RowKit.intOf]; omega
    · have hi3 : i = n := by omega
      subst hi3
      rw [List.take_of_length_le (by rw [Hlen.out]; exact Nat.le_refl _)]
      go_wp2
      go_ret
      exact ⟨rfl, hb⟩
end Go.Proofs.Ytbagekkcakfhgaa.Wire
