/-
  Some texts of this claim, one behind the other: ProofRefPut. What each proves, and its condition, stands at its head.
-/
import Derived.Test.YtdggnakjfcmnmaaZC23
import Derived.Test.YtdggnakjfcmnmaaZC30
import Derived.Test.YtdggnakjfcmnmaaZC13
/-
  The contract of the document's own Put of a proof: its bytes. Condition: names of at most 1,000,000,000 bytes.
-/
namespace Go.Proofs.Ytdggnakjfcmnmaa.Proof
open Go Go.RowKit Go.Lib Go.Proofs.Ytdggnakjfcmnmaa.Need Go.Proofs.Ytdggnakjfcmnmaa.Wire Go.Proofs.Ytdggnakjfcmnmaa.Grow
open Go.Proofs.Ytdggnakjfcmnmaa.Vlq (enc held refText_any refNum_any)
set_option linter.unusedVariables false
theorem refTextP_B (nm : ByteArray) (w : World) (h : nm.size ≤ 24) : Calls Try.prog 41 #[.string nm] w fun e w' => e = .returned (.string (str (textB nm))) ∧ Below w.heap.size w w' := refText_any nm w (by omega)
theorem refNumP_B (n : Int) (w : World) : Calls Try.prog 40 #[.int .i64 n] w fun e w' => e = .returned (.string (str (encN n))) ∧ Below w.heap.size w w' := refNum_any n w
theorem str_3 (a b c d : List UInt8) (h : a ++ (b ++ c) = d) : str a ++ str b ++ str c = str d := by rw [str_append, str_append, List.append_assoc, h]
theorem cell_in_ {w : World} {p : Addr} {v : Value} (h : w.cell? p = some v) (hp : p.block < w.heap.size) (d : Nat) (os : Array Obj) : (Sort.grow (redrawn w d) os).cell? p = some v :=
  ((below_regrown w d os).cell hp).trans h
set_option maxHeartbeats 8000000 in
set_option maxRecDepth 100000 in
theorem refPutPf_any (l : List Sp) (A : Option Addr) (n c : Nat) (w : World) (h : PfOn w A n l) (hl : ∀ q ∈ l, q.name.size ≤ 1000000000 ∧ q.dest.size ≤ 1000000000) (hn : n ≤ 1000000000) :
    Calls Try.prog 20 #[.slice A n c] w fun e w' => e = .returned (.string (str (putPf l))) ∧ Below w.heap.size w w' := by
  have HC := hide (refCheckPf_any l A n c w h hl (by omega))
  cases ho : okPf l with
  | false =>
    rw [ho] at HC
    have E : Hid (putPf l = []) := hide (by unfold putPf; rw [ho]; simp)
    generalize putPf l = R at *
    clear h hl
    go_enter Try.func20, Try.ntmps20
    go_wp2_with (first
      | (go_at_call 9
         refine HC.out.mono ?_
         rintro e w1 ⟨rfl, hb1⟩))
    go_ret
    exact ⟨by rw [E.out]; rfl, hb1⟩
  | true =>
    rw [ho] at HC
    have hlen := h.len
    have Hlen := hide hlen
    have hn2 : n ≤ 1048576 := by have := (okPf_steps ho).1; omega
    have Hs := hide (ok_all_steps ho)
    have hfl := flatPf_len l Hs.out (by omega)
    obtain ⟨X, hX⟩ : ∃ X, X = encN (n : Int) := ⟨_, rfl⟩
    have E : Hid (putPf l = X ++ flat stepB l) := hide (by unfold putPf; rw [if_pos ho, hX, ← hlen]; rfl)
    have hXl : X.length ≤ 6 := by rw [hX]; exact encN_six _
    have HN := hide (fun (z : Int) (wx : World) => refNumP_B z wx)
    have HT := hide (fun (nm : ByteArray) (wx : World) (hnm : nm.size ≤ 24) => refTextP_B nm wx hnm)
    have HX := hide hX.symm
    generalize putPf l = R at *
    clear hlen hX ho hl
    go_enter Try.func20, Try.ntmps20
    go_wp2_with (first
      | (go_at_call 9
         refine HC.out.mono ?_
         rintro e w1 ⟨rfl, hb1⟩)
      | (go_at_call 40
         refine (HN.out _ _).mono ?_
         rintro e w2 ⟨rfl, hb2⟩
         rw [HX.out]
         have hb2 := hb1.trans (hb2.mono hb1.size)))
    go_loopw [3, 4] (fun s t wx => ∃ i : Nat, i ≤ n ∧ t = .int .i64 (i : Int) ∧ s = .string (str (X ++ flat stepB (l.take i))) ∧ Below w.heap.size w wx) (fun _ t => fun _ => n - (RowKit.intOf t).toNat)
    case atStart => exact ⟨0, by omega, rfl, by simp [flat], hb2⟩
    case round =>
      obtain ⟨i, hi, rfl, rfl, hb⟩ := hrel
      have hbs := hb.size
      clear hb1 hb2
      by_cases hlt : i < n
      · obtain ⟨ad, q, rfl, hbl, hx, d0, d1, d2, d3, d4, d5⟩ := PfIn.at_ h hlt
        obtain ⟨q1, q2, q3, q4, q5, q6⟩ := Hs.out q (List.mem_of_getElem? hx)
        have Hft := hide (flat_take stepB l i q hx)
        have hf1 := hfl i
        obtain ⟨k, nm, v, d, a, b⟩ := q
        simp only [] at d0 d1 d2 d3 d4 d5 q1 q2 q3 q4 q5 q6
        have hi1 : (0 : Int) ≤ (i : Int) := by omega
        have hi2 : (i : Int) < (n : Int) := by omega
        obtain ⟨F, hF⟩ : ∃ F, F = X ++ flat stepB (l.take i) := ⟨_, rfl⟩
        obtain ⟨Y, hY⟩ : ∃ Y, Y = F ++ (encN k ++ textB nm) := ⟨_, rfl⟩
        have Hnx : Hid (X ++ flat stepB (l.take (i + 1)) = Y ++ tailB ⟨k, nm, v, d, a, b⟩) := hide (by rw [Hft.out, hY, hF]; unfold stepB; simp only [List.append_assoc])
        have hFl : F.length ≤ 70000100 := by rw [hF, List.length_append]; omega
        have hk6 := encN_six k
        have hnm := textB_len nm q2
        have hYl : Y.length ≤ 70001000 := by rw [hY]; simp only [List.length_append]; omega
        rw [← hF]
        have Hcat := hide (str_3 F (encN k) (textB nm) Y hY.symm)
        have HNk := hide (fun (wx : World) => HN.out k wx)
        have HTn := hide (fun (wx : World) => HT.out nm wx q2)
        have hz1 : (str F).size ≤ 70000100 := by rw [str_size]; exact hFl
        have hz2 : (str (encN k)).size ≤ 6 := by rw [str_size]; exact hk6
        have hz3 : (str (textB nm)).size ≤ 25 := by rw [str_size]; exact hnm
        have hz4 : (str F ++ str (encN k)).size ≤ 70001000 := by rw [str_append, str_size, List.length_append]; omega
        clear hf1 hx Hft hY hF hk6 hnm
        generalize str F = P at *
        generalize str (encN k) = P2 at *
        generalize str (textB nm) = P3 at *
        have c0 := (hb.cell (p := ad.add (i * 6)) (by simp only [block_of_add]; exact hbl)).trans d0
        have c1 := (hb.cell (p := ⟨(ad.add (i * 6)).block, (ad.add (i * 6)).off + 1, none⟩) (by simp only [block_of_add]; exact hbl)).trans d1
        have r0 := cell_in_ c0 (by rw [block_of_add]; omega)
        have r1 := cell_in_ c1 (by simp only [block_of_add]; omega)
        clear c0 c1
        go_upto_region 7 with fail
        refine wp_region_grow [(23, isC (.string P2)), (30, isC (.string P3))] [23, 30]
          (by kernel_rfl) (by kernel_rfl) rfl (by kernel_rfl) (by kernel_rfl) ⟨isC_stable _, isC_stable _, trivial⟩ ?_
        repeat (first
          | (refine lex_skip rfl ?_; simp only [Act.put, List.setIfInBounds_toArray, List.set_cons_zero, List.set_cons_succ])
          | (refine lex_quiet rfl rfl rfl (fun K hK => ?_); unfold Reg; go_big_quiet_op; refine hK _ ?_; clear hK K)
          | (refine lex_rel rfl rfl (fun w' hb9 hK => ?_) (fun v w' hb9 hv => ?_)
             · unfold grows
               go_simp
               first
                 | (go_at_call 41; exact call_isC (HTn.out w'))
                 | (go_at_call 40; exact call_isC (HNk.out w'))
             obtain rfl := hv
             simp only [Act.put, List.setIfInBounds_toArray, List.set_cons_zero, List.set_cons_succ]))
        refine lex_nil (fun w9 hC9 _ => ?_)
        have hb9 := reg_iff.1 hC9
        clear hC9
        have hb9b := hb.trans (hb9.mono hbs)
        have HP : Hid (P ++ P2 ++ P3 = str Y) := Hcat
        clear r0 r1 hz1 hz2 hz3 hz4 hb9 Hcat HNk HTn hb hbs
        have hb9s := hb9b.size
        have c0 := (hb9b.cell (p := ad.add (i * 6)) (by simp only [block_of_add]; exact hbl)).trans d0
        have c1 := (hb9b.cell (p := ⟨(ad.add (i * 6)).block, (ad.add (i * 6)).off + 1, none⟩) (by simp only [block_of_add]; exact hbl)).trans d1
        have c2 := (hb9b.cell (p := ⟨(ad.add (i * 6)).block, (ad.add (i * 6)).off + 2, none⟩) (by simp only [block_of_add]; exact hbl)).trans d2
        have c3 := (hb9b.cell (p := ⟨(ad.add (i * 6)).block, (ad.add (i * 6)).off + 3, none⟩) (by simp only [block_of_add]; exact hbl)).trans d3
        have c4 := (hb9b.cell (p := ⟨(ad.add (i * 6)).block, (ad.add (i * 6)).off + 4, none⟩) (by simp only [block_of_add]; exact hbl)).trans d4
        have c5 := (hb9b.cell (p := ⟨(ad.add (i * 6)).block, (ad.add (i * 6)).off + 5, none⟩) (by simp only [block_of_add]; exact hbl)).trans d5
        by_cases hk3 : k = 3
        · have hk31 : (k == 3) = true := beq_iff_eq.2 hk3
          have hk41 : (k == 4) = false := beq_eq_false_iff_ne.2 (by omega)
          obtain ⟨u1, u2⟩ := q3 hk3
          obtain ⟨Z, hZ⟩ : ∃ Z, Z = Y ++ (encN v ++ textB d) := ⟨_, rfl⟩
          have Hnx2 : Hid (X ++ flat stepB (l.take (i + 1)) = Z) := hide (by rw [Hnx.out, hZ]; unfold tailB; rw [if_pos hk3])
          have Hcat := hide (str_3 Y (encN v) (textB d) Z hZ.symm)
          have HNk := hide (fun (wx : World) => HN.out v wx)
          have HTn := hide (fun (wx : World) => HT.out d wx u2)
          have hz1 : (str Y).size ≤ 70001000 := by rw [str_size]; exact hYl
          have hz2 : (str (encN v)).size ≤ 6 := by rw [str_size]; exact encN_six v
          have hz3 : (str (textB d)).size ≤ 25 := by rw [str_size]; exact textB_len d u2
          have hz4 : (str Y ++ str (encN v)).size ≤ 70002000 := by rw [str_append, str_size, List.length_append]; have := encN_six v; omega
          rw [HP.out]
          clear hZ hk3 q3 q4 q5 q6 Hnx HP
          generalize str Y = P at *
          generalize str (encN v) = P2 at *
          generalize str (textB d) = P3 at *
          have r2 := cell_in_ c2 (by simp only [block_of_add]; omega)
          have r3 := cell_in_ c3 (by simp only [block_of_add]; omega)
          skip
          go_upto_region 9 with fail
          refine wp_region_grow [(44, isC (.string P2)), (51, isC (.string P3))] [44, 51]
            (by kernel_rfl) (by kernel_rfl) rfl (by kernel_rfl) (by kernel_rfl) ⟨isC_stable _, isC_stable _, trivial⟩ ?_
          repeat (first
            | (refine lex_skip rfl ?_; simp only [Act.put, List.setIfInBounds_toArray, List.set_cons_zero, List.set_cons_succ])
            | (refine lex_quiet rfl rfl rfl (fun K hK => ?_); unfold Reg; go_big_quiet_op; refine hK _ ?_; clear hK K)
            | (refine lex_rel rfl rfl (fun w' hb9 hK => ?_) (fun v w' hb9 hv => ?_)
               · unfold grows
                 go_simp
                 first
                   | (go_at_call 41; exact call_isC (HTn.out w'))
                   | (go_at_call 40; exact call_isC (HNk.out w'))
               obtain rfl := hv
               simp only [Act.put, List.setIfInBounds_toArray, List.set_cons_zero, List.set_cons_succ]))
          refine lex_nil (fun w8 hC9 _ => ?_)
          have hb9 := reg_iff.1 hC9
          clear hC9
          have hb8 := hb9b.trans (hb9.mono hb9s)
          clear r2 r3 c0 c1 c2 c3 c4 c5
          have HP2 : Hid (P ++ P2 ++ P3 = str Z) := Hcat
          have c0 := (hb8.cell (p := ad.add (i * 6)) (by simp only [block_of_add]; exact hbl)).trans d0
          go_wp2
          go_roundw
          case rel => exact ⟨i + 1, by omega, by go_num, by rw [Hnx2.out, ← HP2.out], hb8⟩
          case measure => simp [RowKit.intOf]; omega
        · have hk31 : (k == 3) = false := beq_eq_false_iff_ne.2 hk3
          by_cases hk4 : k = 4
          · have hk41 : (k == 4) = true := beq_iff_eq.2 hk4
            obtain ⟨Z, hZ⟩ : ∃ Z, Z = Y ++ (encN a ++ encN b) := ⟨_, rfl⟩
            have Hnx2 : Hid (X ++ flat stepB (l.take (i + 1)) = Z) := hide (by rw [Hnx.out, hZ]; unfold tailB; rw [if_neg hk3, if_pos hk4])
            have Hcat := hide (str_3 Y (encN a) (encN b) Z hZ.symm)
            have HNk := hide (fun (wx : World) => HN.out a wx)
            have HNb := hide (fun (wx : World) => HN.out b wx)
            have hz1 : (str Y).size ≤ 70001000 := by rw [str_size]; exact hYl
            have hz2 : (str (encN a)).size ≤ 6 := by rw [str_size]; exact encN_six a
            have hz3 : (str (encN b)).size ≤ 6 := by rw [str_size]; exact encN_six b
            have hz4 : (str Y ++ str (encN a)).size ≤ 70002000 := by rw [str_append, str_size, List.length_append]; have := encN_six a; omega
            rw [HP.out]
            clear hZ hk3 hk4 q3 q4 q5 q6 Hnx HP
            generalize str Y = P at *
            generalize str (encN a) = P2 at *
            generalize str (encN b) = P3 at *
            have r2 := cell_in_ c4 (by simp only [block_of_add]; omega)
            have r3 := cell_in_ c5 (by simp only [block_of_add]; omega)
            skip
            go_upto_region 11 with fail
            refine wp_region_grow [(65, isC (.string P2)), (72, isC (.string P3))] [65, 72]
              (by kernel_rfl) (by kernel_rfl) rfl (by kernel_rfl) (by kernel_rfl) ⟨isC_stable _, isC_stable _, trivial⟩ ?_
            repeat (first
              | (refine lex_skip rfl ?_; simp only [Act.put, List.setIfInBounds_toArray, List.set_cons_zero, List.set_cons_succ])
              | (refine lex_quiet rfl rfl rfl (fun K hK => ?_); unfold Reg; go_big_quiet_op; refine hK _ ?_; clear hK K)
              | (refine lex_rel rfl rfl (fun w' hb9 hK => ?_) (fun v w' hb9 hv => ?_)
                 · unfold grows
                   go_simp
                   first
                     | (go_at_call_of 40 (Value.int .i64 a); exact call_isC (HNk.out w'))
                     | (go_at_call 40; exact call_isC (HNb.out w'))
                 obtain rfl := hv
                 simp only [Act.put, List.setIfInBounds_toArray, List.set_cons_zero, List.set_cons_succ]))
            refine lex_nil (fun w8 hC9 _ => ?_)
            have hb9 := reg_iff.1 hC9
            clear hC9
            have hb8 := hb9b.trans (hb9.mono hb9s)
            clear r2 r3 c0 c1 c2 c3 c4 c5
            have HP2 : Hid (P ++ P2 ++ P3 = str Z) := Hcat
            go_wp2
            go_roundw
            case rel => exact ⟨i + 1, by omega, by go_num, by rw [Hnx2.out, ← HP2.out], hb8⟩
            case measure => simp [RowKit.intOf]; omega
          · have hk41 : (k == 4) = false := beq_eq_false_iff_ne.2 hk4
            have Hnx2 : Hid (X ++ flat stepB (l.take (i + 1)) = Y) := hide (by rw [Hnx.out]; unfold tailB; rw [if_neg hk3, if_neg hk4, List.append_nil])
            clear hk3 hk4 q3 q4 q5 q6 Hnx
            rw [HP.out]
            go_wp2
            go_roundw
            case rel => exact ⟨i + 1, by omega, by go_num, by rw [Hnx2.out], hb9b⟩
            case measure => simp [RowKit.intOf]; omega
      · have hi3 : i = n := by omega
        subst hi3
        have E2 : Hid (X ++ flat stepB (l.take i) = R) := hide (by rw [E.out, List.take_of_length_le (by rw [Hlen.out]; exact Nat.le_refl _)])
        rw [E2.out]
        go_wp2
        go_ret
        exact ⟨rfl, hb⟩
end Go.Proofs.Ytdggnakjfcmnmaa.Proof
