/-
  Some texts of this claim, one behind the other: ProofBytesW, ProofPut, ProofTake. What each proves, and its condition, stands at its head.
-/
import Derived.Test.YtdggnakjfcmnmaaZC28
import Derived.Test.YtdggnakjfcmnmaaZC31
import Derived.Test.YtdggnakjfcmnmaaZC24
import Derived.Test.YtdggnakjfcmnmaaZC30
import Derived.Test.YtdggnakjfcmnmaaZC16
import Derived.Test.YtdggnakjfcmnmaaZC12
import Derived.Test.YtdggnakjfcmnmaaZC17
import Derived.Shelf.Abstract
/-
  The law ProofBytes, if the program's Put and Read (and, for the example, Check and Trim) of proofs tell what they have to.
-/
namespace Go.Proofs.Ytdggnakjfcmnmaa.Proof
open Go Go.RowKit Go.Lib Go.Proofs.Ytdggnakjfcmnmaa.Need Go.Proofs.Ytdggnakjfcmnmaa.Mani Go.Proofs.Ytdggnakjfcmnmaa.Grow
open Go.Proofs.Ytdggnakjfcmnmaa.Wire (MakesB)
set_option linter.unusedVariables false
def SpecPutPf : Prop := ∀ (l : List Sp) (A : Option Addr) (n c : Nat) (w : World), PfOn w A n l → n ≤ 1000000000 → NamesS l → Calls Try.prog 17 #[.slice A n c] w (MakesB w (putPf l))
def SpecReadPf : Prop := ∀ (b : List UInt8) (A : Option Addr) (n c : Nat) (w : World), Reads w w.heap.size 1 A n (bcs b) → n ≤ c → n ≤ 100000000 →
  Calls Try.prog 18 #[.slice A n c] w fun e w' => ∃ A' n' c', e = .returned (.tuple #[.slice A' n' c', .int .i64 (errPf b)]) ∧ n' ≤ c' ∧ PfOn w' A' n' (readPf b) ∧ Below w.heap.size w w'
theorem putPf_len (l : List Sp) : (putPf l).length ≤ 70000010 := by
  unfold putPf
  split
  · rename_i h; exact pfB_len l h
  · simp
theorem readPf_len (b : List UInt8) : (readPf b).length ≤ 1048576 ∧ ∀ x ∈ readPf b, FineS x := by
  unfold readPf
  split
  · exact pfS_fine (b, 0)
  · exact ⟨by simp, fun x hx => by cases hx⟩
set_option maxHeartbeats 8000000 in
set_option maxRecDepth 100000 in
theorem pbytes_walk (SC : SpecCheckPf) (ST : SpecTrimPf) (SP : SpecPutPf) (SR : SpecReadPf) (l : List Sp) (b : List UInt8) (A0 Ab : Option Addr) (n0 c0 nb cb : Nat) (w : World) (h : PfOn w A0 n0 l) (hr : Reads w w.heap.size 1 Ab nb (bcs b)) (hn : n0 ≤ 9223372036854775807) (hcb : nb ≤ cb) :
    Calls Try.prog 4 #[.slice A0 n0 c0, .slice Ab nb cb] w fun e w' => e = .returned (.bool true) ∧ Below w.heap.size w w' := by
  have HW := hide (fun wx => awakePf_any SC ST wx)
  have HL0 := hide (largeS_any l A0 n0 c0 w h hn)
  cases hl0 : largeS l with
  | true =>
    rw [hl0] at HL0
    clear SC ST SP SR h hr
    go_enter Try.func4, Try.ntmps4
    go_wp2_with (first
      | (go_at_call 6
         refine HL0.out.mono ?_
         rintro e w1 ⟨rfl, rfl⟩)
      | (go_at_call 7
         refine (HW.out _).mono ?_
         rintro e w2 ⟨rfl, hb2⟩))
    go_ret
    exact ⟨rfl, hb2⟩
  | false =>
  rw [hl0] at HL0
  by_cases hn2 : 8000 < nb
  · have hn3 : (8000 : Int) < (nb : Int) := by omega
    clear SC ST SP SR h hr hl0 hn2
    go_enter Try.func4, Try.ntmps4
    go_wp2_with (first
      | (go_at_call 6
         refine HL0.out.mono ?_
         rintro e w1 ⟨rfl, rfl⟩)
      | (go_at_call 7
         refine (HW.out _).mono ?_
         rintro e w2 ⟨rfl, hb2⟩))
    go_ret
    exact ⟨rfl, hb2⟩
  · have hn3 : ¬ (8000 : Int) < (nb : Int) := by omega
    have hs0 := large_short hl0
    have hf0 : NamesS l := fun s hs => by have := large_fine hl0 s hs; omega
    have hlen := h.len
    have hbl : b.length = nb := by have := hr.1; rw [bcs_length] at this; omega
    obtain ⟨hx1, hx2⟩ := readPf_len b
    have hfx : NamesS (readPf b) := fun s hs => by have := hx2 s hs; unfold FineS at this; omega
    have hpl := putPf_len l
    have HP := hide (fun (wx : World) (hx : Below w.heap.size w wx) => SP l A0 n0 c0 wx (h.on hx) (by omega) hf0)
    have HRP := hide (fun (wx : World) (hx : Below w.heap.size w wx) => refPutPf_any l A0 n0 c0 wx (h.on hx) (fun q hq => hf0 q hq) (by omega))
    have HC := hide (fun (wx : World) (hx : Below w.heap.size w wx) => refCheckPf_any l A0 n0 c0 wx (h.on hx) (fun q hq => hf0 q hq) (by omega))
    have HR := hide (fun (wx : World) (hx : Below w.heap.size w wx) => SR b Ab nb cb wx ((hr.below hx).more hx.size) hcb (by omega))
    have HRR := hide (fun (wx : World) => refReadPf_any b wx (by omega))
    have HS := hide (fun (A A' : Option Addr) (n c n' c' : Nat) (wx : World) (h1 : PfOn wx A n (readPf b)) (h2 : PfOn wx A' n' (readPf b)) => refSamePf_any (c := c) (c' := c') wx h1 h2 (by have := h1.len; omega) (by have := h2.len; omega))
    simp only [alikeP_self] at HS
    have HP2 := hide (fun (A : Option Addr) (n c : Nat) (wx : World) (h1 : PfOn wx A n (readPf b)) => SP (readPf b) A n c wx h1 (by have := h1.len; omega) hfx)
    have HZ := hide (fun (A : Option Addr) (n c : Nat) (wx : World) (h1 : Reads wx wx.heap.size 1 A n (bcs (putPf l))) (h2 : n ≤ c) => SR (putPf l) A n c wx h1 h2 (by have := h1.1; rw [bcs_length] at this; omega))
    have HS2 := hide (fun (A : Option Addr) (n c : Nat) (wx : World) (hx : Below w.heap.size w wx) (h1 : PfOn wx A n l) => refSamePf_any (c := c) (c' := c0) wx h1 (h.on hx) (by have := h1.len; omega) (by omega))
    simp only [alikeP_self] at HS2
    have Hr := hide hr
    unfold MakesB at HP HP2
    have hOK := hide (fun (ho : okPf l = true) => (show errPf (putPf l) = 0 ∧ readPf (putPf l) = l by unfold putPf; rw [if_pos ho]; exact read_putPf l ho))
    have hBK := hide (fun (he : errPf b = 0) => (show putPf (readPf b) = b by obtain ⟨g1, g2⟩ := put_readPf b he; unfold putPf; rw [if_pos g1, g2]))
    clear SC ST SP SR h hr hl0 hs0 hf0 hlen hbl hx1 hx2 hfx hpl hn2
    generalize putPf (readPf b) = PX at *
    generalize putPf l = PB at *
    generalize readPf b = rb at *
    generalize errPf b = er at *
    generalize readPf PB = rz at *
    generalize errPf PB = ez at *
    have hb0 : Below w.heap.size w w := Below.refl _ _
    go_enter Try.func4, Try.ntmps4
    go_upto_region 5 with (first
      | (go_at_call 6
         refine HL0.out.mono ?_
         rintro e w ⟨rfl, rfl⟩)
      | (go_at_call 17
         refine (HP.out _ hb0).mono ?_
         rintro e w1 ⟨A1, n1, c1, rfl, hN1, hb1⟩)
      | (go_at_call 18
         refine (HR.out _ hb1).mono ?_
         rintro e w2 ⟨A2, n2, c2, rfl, hc2, hx2, hb2x⟩
         have hb2 := hb1.trans (hb2x.mono hb1.size)
         have hN2 := hN1.below hb2x
         have hcv := conv_of (c := cb) (Hr.out.below hb2)))
    clear HP HR hN1 hb1 hb2x hb0 HL0
    go_upto_region 6 with (first
      | (go_at_call 19
         refine (HRR.out w2).mono ?_
         rintro e V ⟨A3, n3, c3, rfl, hc3, hy3, hb3x⟩
         have hbV := hb2.trans (hb3x.mono hb2.size)
         have hNV := hN2.below hb3x
         have hxV := hx2.on hb3x))
    have hbVs := hbV.size
    clear HRR hN2 hx2 hb2 hb3x hcv
    have hcr0 := conv_reg (c := c1) hNV.2.2.2
    have hcr1 := conv_reg (c := cb) ((Hr.out.below hbV).more hbVs)
    have up := hide (fun (wx : World) (hx : Below V.heap.size V wx) => hbV.trans (hx.mono hbVs))
    have hee : (er != er) = false := bne_self_eq_false er
    by_cases he : er = 0
    · have hBX := hBK.out he
      have e1 : (er == 0) = true := beq_iff_eq.2 he
      rw [hBX] at HP2
      clear he hBK hBX
      refine wp_region_grow [(36, isC (.string (str PB))), (41, isC (.bool true)), (54, isB w.heap.size b)] [36, 41, 54]
        (by kernel_rfl) (by kernel_rfl) rfl (by kernel_rfl) (by kernel_rfl) ⟨isC_stable _, isC_stable _, isB_stable _ _, trivial⟩ ?_
      repeat (first
        | (refine lex_skip rfl ?_; simp only [Act.put, List.setIfInBounds_toArray, List.set_cons_zero, List.set_cons_succ])
        | (refine lex_quiet rfl rfl rfl (fun K hK => ?_); unfold Reg; go_big_quiet_op; refine hK _ ?_; clear hK K)
        | (refine lex_convB rfl rfl rfl rfl rfl rfl ?_; simp only [Act.put, List.setIfInBounds_toArray, List.set_cons_zero, List.set_cons_succ])
        | (refine lex_rel rfl rfl (fun w' hb9 hK => ?_) (fun v w' hb9 hv => ?_)
           · unfold grows
             go_simp
             first
               | (go_at_call 20; exact call_isC (HRP.out w' (up.out _ hb9)))
               | (go_at_call 11; exact call_isC ((HS.out _ _ _ _ _ _ w' (hxV.on hb9) (hy3.on hb9)).mono fun _ _ ⟨h1, k, h2⟩ => ⟨h1, by rw [h2]; exact below_drewN (Below.refl _ _) k⟩))
               | (go_at_call 17; exact (HP2.out _ _ _ w' (hxV.on hb9)).mono fun _ _ ⟨A, n, c, he, hn, hb1⟩ => ⟨_, he, hb1, A, n, c, rfl, hn.less (up.out _ hb9).size⟩)
           first
             | (obtain rfl := hv
                simp only [Act.put, List.setIfInBounds_toArray, List.set_cons_zero, List.set_cons_succ])
             | (obtain ⟨A5, n5, c5, rfl, hn5⟩ := hv
                simp only [Act.put, List.setIfInBounds_toArray, List.set_cons_zero, List.set_cons_succ])))
      refine lex_nil (fun w9 hC9 _ => ?_)
      have hb9 := reg_iff.1 hC9
      clear hC9 hcr0 hcr1
      have hbw9 := up.out _ hb9
      have hN9 := hNV.below hb9
      cases ho : okPf l with
      | true =>
        obtain ⟨z1, z2⟩ := hOK.out ho
        rw [ho] at HC
        rw [z1, z2] at HZ
        clear hOK z1 z2 ho HRP HS HP2 up hb9 hNV hxV hy3
        go_wp2_with (first
          | (go_at_call 18
             refine (HZ.out _ _ _ w9 hN9.2.2.2 hN9.2.1).mono ?_
             rintro e wA ⟨AA, nA, cA, rfl, hcA, hzA, hbAx⟩
             have hbA := hbw9.trans (hbAx.mono hbw9.size))
          | (go_at_call 9
             refine (HC.out _ hbA).mono ?_
             rintro e wB ⟨rfl, hbBx⟩
             have hbB := hbA.trans (hbBx.mono hbA.size))
          | (go_at_call 11
             refine (HS2.out _ _ _ _ hbB (hzA.on hbBx)).mono ?_
             rintro e wC ⟨rfl, kC, rfl⟩
             have hbC := below_drewN hbB kC)
          | (go_at_call 7
             refine (HW.out _).mono ?_
             rintro e wD ⟨rfl, hbDx⟩
             have hbD := hbC.trans (hbDx.mono hbC.size)))
        go_ret
        exact ⟨rfl, hbD⟩
      | false =>
        rw [ho] at HC
        clear hOK ho HRP HS HS2 HP2 up hb9 hNV hxV hy3
        go_wp2_with (first
          | (go_at_call 18
             refine (HZ.out _ _ _ w9 hN9.2.2.2 hN9.2.1).mono ?_
             rintro e wA ⟨AA, nA, cA, rfl, hcA, hzA, hbAx⟩
             have hbA := hbw9.trans (hbAx.mono hbw9.size))
          | (go_at_call 9
             refine (HC.out _ hbA).mono ?_
             rintro e wB ⟨rfl, hbBx⟩
             have hbB := hbA.trans (hbBx.mono hbA.size))
          | (go_at_call 7
             refine (HW.out _).mono ?_
             rintro e wD ⟨rfl, hbDx⟩
             have hbD := hbB.trans (hbDx.mono hbB.size)))
        go_ret
        exact ⟨rfl, hbD⟩
    · have e1 : (er == 0) = false := beq_eq_false_iff_ne.2 he
      clear he hBK
      refine wp_region_grow [(36, isC (.string (str PB))), (41, isC (.bool true)), (54, isB w.heap.size PX)] [36, 41, 54]
        (by kernel_rfl) (by kernel_rfl) rfl (by kernel_rfl) (by kernel_rfl) ⟨isC_stable _, isC_stable _, isB_stable _ _, trivial⟩ ?_
      repeat (first
        | (refine lex_skip rfl ?_; simp only [Act.put, List.setIfInBounds_toArray, List.set_cons_zero, List.set_cons_succ])
        | (refine lex_quiet rfl rfl rfl (fun K hK => ?_); unfold Reg; go_big_quiet_op; refine hK _ ?_; clear hK K)
        | (refine lex_convB rfl rfl rfl rfl rfl rfl ?_; simp only [Act.put, List.setIfInBounds_toArray, List.set_cons_zero, List.set_cons_succ])
        | (refine lex_rel rfl rfl (fun w' hb9 hK => ?_) (fun v w' hb9 hv => ?_)
           · unfold grows
             go_simp
             first
               | (go_at_call 20; exact call_isC (HRP.out w' (up.out _ hb9)))
               | (go_at_call 11; exact call_isC ((HS.out _ _ _ _ _ _ w' (hxV.on hb9) (hy3.on hb9)).mono fun _ _ ⟨h1, k, h2⟩ => ⟨h1, by rw [h2]; exact below_drewN (Below.refl _ _) k⟩))
               | (go_at_call 17; exact (HP2.out _ _ _ w' (hxV.on hb9)).mono fun _ _ ⟨A, n, c, he, hn, hb1⟩ => ⟨_, he, hb1, A, n, c, rfl, hn.less (up.out _ hb9).size⟩)
           first
             | (obtain rfl := hv
                simp only [Act.put, List.setIfInBounds_toArray, List.set_cons_zero, List.set_cons_succ])
             | (obtain ⟨A5, n5, c5, rfl, hn5⟩ := hv
                simp only [Act.put, List.setIfInBounds_toArray, List.set_cons_zero, List.set_cons_succ])))
      refine lex_nil (fun w9 hC9 _ => ?_)
      have hb9 := reg_iff.1 hC9
      clear hC9 hcr0 hcr1
      have hbw9 := up.out _ hb9
      have hN9 := hNV.below hb9
      cases ho : okPf l with
      | true =>
        obtain ⟨z1, z2⟩ := hOK.out ho
        rw [ho] at HC
        rw [z1, z2] at HZ
        clear hOK z1 z2 ho HRP HS HP2 up hb9 hNV hxV hy3
        go_wp2_with (first
          | (go_at_call 18
             refine (HZ.out _ _ _ w9 hN9.2.2.2 hN9.2.1).mono ?_
             rintro e wA ⟨AA, nA, cA, rfl, hcA, hzA, hbAx⟩
             have hbA := hbw9.trans (hbAx.mono hbw9.size))
          | (go_at_call 9
             refine (HC.out _ hbA).mono ?_
             rintro e wB ⟨rfl, hbBx⟩
             have hbB := hbA.trans (hbBx.mono hbA.size))
          | (go_at_call 11
             refine (HS2.out _ _ _ _ hbB (hzA.on hbBx)).mono ?_
             rintro e wC ⟨rfl, kC, rfl⟩
             have hbC := below_drewN hbB kC)
          | (go_at_call 7
             refine (HW.out _).mono ?_
             rintro e wD ⟨rfl, hbDx⟩
             have hbD := hbC.trans (hbDx.mono hbC.size)))
        go_ret
        exact ⟨rfl, hbD⟩
      | false =>
        rw [ho] at HC
        clear hOK ho HRP HS HS2 HP2 up hb9 hNV hxV hy3
        go_wp2_with (first
          | (go_at_call 18
             refine (HZ.out _ _ _ w9 hN9.2.2.2 hN9.2.1).mono ?_
             rintro e wA ⟨AA, nA, cA, rfl, hcA, hzA, hbAx⟩
             have hbA := hbw9.trans (hbAx.mono hbw9.size))
          | (go_at_call 9
             refine (HC.out _ hbA).mono ?_
             rintro e wB ⟨rfl, hbBx⟩
             have hbB := hbA.trans (hbBx.mono hbA.size))
          | (go_at_call 7
             refine (HW.out _).mono ?_
             rintro e wD ⟨rfl, hbDx⟩
             have hbD := hbB.trans (hbDx.mono hbB.size)))
        go_ret
        exact ⟨rfl, hbD⟩
end Go.Proofs.Ytdggnakjfcmnmaa.Proof
/-
  The contracts of the program's putStep and Put: they answer a new slice of the document's bytes. Condition: names of at most 1,000,000,000 bytes.
-/
namespace Go.Proofs.Ytdggnakjfcmnmaa.Proof
open Go Go.RowKit Go.Lib Go.Proofs.Ytdggnakjfcmnmaa.Need Go.Proofs.Ytdggnakjfcmnmaa.Mani Go.Proofs.Ytdggnakjfcmnmaa.Grow Go.Proofs.Ytdggnakjfcmnmaa.Wire
open Go.Proofs.Ytdggnakjfcmnmaa.Vlq (enc held put_new text_new encs)
set_option linter.unusedVariables false
theorem cell_reg_q {w : World} {p : Addr} {v : Value} (h : w.cell? p = some v) (hp : p.block < w.heap.size) (d : Nat) (os : Array Obj) : (Sort.grow (redrawn w d) os).cell? p = some v :=
  ((below_regrown w d os).cell hp).trans h
set_option maxHeartbeats 4000000 in
set_option maxRecDepth 100000 in
theorem putStep_any (s : Sp) (w : World) (hs : StepOk s) :
    Calls Try.prog 33 #[.agg #[.int .i64 s.kind, .string s.name, .int .i64 s.ver, .string s.dest, .int .i64 s.a, .int .i64 s.b]] w (MakesB w (stepB s)) := by
  obtain ⟨k, nm, vr, d, a, b⟩ := s
  obtain ⟨h1, h2, h3, h4, h5, h6⟩ := hs
  simp only [] at h1 h2 h3 h4 h5 h6 ⊢
  unfold MakesB
  have Hst : Hid (stepB ⟨k, nm, vr, d, a, b⟩ = encN k ++ (textB nm ++ (if k = 3 then encN vr ++ textB d else if k = 4 then encN a ++ encN b else []))) := hide rfl
  generalize stepB ⟨k, nm, vr, d, a, b⟩ = R at *
  have l1 := encN_six k
  have l2 := textB_len nm h2
  obtain ⟨X, hX⟩ : ∃ X, X = encN k ++ textB nm := ⟨_, rfl⟩
  have lX : X.length ≤ 31 := by rw [hX, List.length_append]; omega
  have HX := hide hX
  have HP1 := hide (fun wx Ax nx cx (hx : Reads wx wx.heap.size 1 Ax nx (ics [k])) => put_B k Ax nx cx wx hx)
  have HT1 := hide (fun (A1 : Option Addr) (n1 c1 : Nat) (wx : World) (hn1 : n1 = (encN k).length) (hr1 : Reads wx wx.heap.size 1 A1 n1 (bcs (encN k))) => text_new A1 n1 c1 (encN k) nm wx X hX.symm (by omega) (by omega) hr1)
  unfold MakesB at HP1
  clear hX
  have hbw0 := alloc_b w (.cells #[.int .i64 k, .string nm, .int .i64 vr, .string d, .int .i64 a, .int .i64 b] 40)
  have BW := Blk.new w 40 #[.int .i64 k, .string nm, .int .i64 vr, .string d, .int .i64 a, .int .i64 b]
  have hsz0 : w.heap.size ≤ (w.alloc (.cells #[.int .i64 k, .string nm, .int .i64 vr, .string d, .int .i64 a, .int .i64 b] 40)).heap.size := by simp
  go_enter Try.func33, Try.ntmps33
  go_upto_region 1 with fail
  generalize w.alloc (.cells #[.int .i64 k, .string nm, .int .i64 vr, .string d, .int .i64 a, .int .i64 b] 40) = W0 at *
  have p0 := (BW.cell 0).trans (show (#[Value.int .i64 k, .string nm, .int .i64 vr, .string d, .int .i64 a, .int .i64 b] : Array Value)[0]? = some (.int .i64 k) from rfl)
  have p1 := (BW.cell 1).trans (show (#[Value.int .i64 k, .string nm, .int .i64 vr, .string d, .int .i64 a, .int .i64 b] : Array Value)[1]? = some (.string nm) from rfl)
  have q0 := cell_reg_q p0 BW.lt
  have q1 := cell_reg_q p1 BW.lt
  refine wp_region_grow [(6, isI [k]), (7, isB w.heap.size (encN k)), (10, isB w.heap.size X)] [6, 7, 10]
    (by kernel_rfl) (by kernel_rfl) rfl (by kernel_rfl) (by kernel_rfl) ⟨isI_stable _, isB_stable _ _, isB_stable _ _, trivial⟩ ?_
  refine lex_quiet rfl rfl rfl (fun K hK => ?_); unfold Reg; go_big_quiet_op; refine hK _ ?_; clear hK K
  refine lex_quiet rfl rfl rfl (fun K hK => ?_); unfold Reg; go_big_quiet_op; refine hK _ ?_; clear hK K
  refine lex_rel rfl rfl (fun w' hb hK => ?_) (fun vv w' hb hv => ?_)
  · unfold grows
    go_simp
    exact ⟨alloc_b _ _, _, _, _, rfl, (Reads.new1 w' _ _).more (by simp)⟩
  obtain ⟨AI, nI, cI, rfl, hI⟩ := hv
  clear hI
  simp only [Act.put, List.setIfInBounds_toArray, List.set_cons_zero, List.set_cons_succ]
  refine lex_rel rfl rfl (fun w' hb hK => ?_) (fun vv w' hb hv => ?_)
  · obtain ⟨A4, n4, c4, e4, hN4⟩ := hK.at_ 6 rfl rfl (slice_def _ _ _)
    have e4' : Value.slice AI nI cI = .slice A4 n4 c4 := e4
    injection e4' with e5 e6 e7
    subst e5 e6 e7
    unfold grows
    go_simp
    go_at_call 32
    refine (HP1.out w' _ _ _ hN4).mono ?_
    rintro e w5 ⟨A5, n5, c5, rfl, hN5, hb5⟩
    exact ⟨_, rfl, hb5, A5, n5, c5, rfl, hN5.less (by have := hb.size; omega)⟩
  obtain ⟨AP, nP, cP, rfl, hP⟩ := hv
  clear hP
  simp only [Act.put, List.setIfInBounds_toArray, List.set_cons_zero, List.set_cons_succ]
  refine lex_quiet rfl rfl rfl (fun K hK => ?_); unfold Reg; go_big_quiet_op; refine hK _ ?_; clear hK K
  refine lex_quiet rfl rfl rfl (fun K hK => ?_); unfold Reg; go_big_quiet_op; refine hK _ ?_; clear hK K
  refine lex_rel rfl rfl (fun w' hb hK => ?_) (fun vv w' hb hv => ?_)
  · obtain ⟨A4, n4, c4, e4, hN4⟩ := hK.at_ 7 rfl rfl (slice_def _ _ _)
    have e4' : Value.slice AP nP cP = .slice A4 n4 c4 := e4
    injection e4' with e5 e6 e7
    subst e5 e6 e7
    unfold grows
    go_simp
    go_at_call 53
    refine (HT1.out _ _ _ w' hN4.1 hN4.2.2.2).mono ?_
    rintro e w5 ⟨A5, n5, c5, rfl, hN5, hb5⟩
    exact ⟨_, rfl, hb5, A5, n5, c5, rfl, hN5.less (by have := hb.size; omega)⟩
  obtain ⟨AT, nT, cT, rfl, hT⟩ := hv
  clear hT
  simp only [Act.put, List.setIfInBounds_toArray, List.set_cons_zero, List.set_cons_succ]
  refine lex_quiet rfl rfl rfl (fun K hK => ?_); unfold Reg; go_big_quiet_op; refine hK _ ?_; clear hK K

  refine lex_nil (fun w9 hC9 hK9 => ?_)
  have hb9 := reg_iff.1 hC9
  obtain ⟨A4, n4, c4, e4, hN4⟩ := hK9 6 _ 10 _ rfl rfl rfl (slice_def _ _ _)
  have e4' : Value.slice AT nT cT = .slice A4 n4 c4 := e4
  injection e4' with e5 e6 e7
  subst e5 e6 e7
  clear e4 hK9 hC9 q0 q1 p0 p1 HP1 HT1
  have BW9 := BW.below hb9 BW.lt
  have hbw9 : Below w.heap.size w w9 := hbw0.trans (hb9.mono hsz0)
  have hs9 := hbw9.size
  have hn4 := hide hN4.1
  clear BW hbw0 hsz0 hb9
  have p0 := (BW9.cell 0).trans (show (#[Value.int .i64 k, .string nm, .int .i64 vr, .string d, .int .i64 a, .int .i64 b] : Array Value)[0]? = some (.int .i64 k) from rfl)
  have p1 := (BW9.cell 1).trans (show (#[Value.int .i64 k, .string nm, .int .i64 vr, .string d, .int .i64 a, .int .i64 b] : Array Value)[1]? = some (.string nm) from rfl)
  have p2 := (BW9.cell 2).trans (show (#[Value.int .i64 k, .string nm, .int .i64 vr, .string d, .int .i64 a, .int .i64 b] : Array Value)[2]? = some (.int .i64 vr) from rfl)
  have p3 := (BW9.cell 3).trans (show (#[Value.int .i64 k, .string nm, .int .i64 vr, .string d, .int .i64 a, .int .i64 b] : Array Value)[3]? = some (.string d) from rfl)
  have p4 := (BW9.cell 4).trans (show (#[Value.int .i64 k, .string nm, .int .i64 vr, .string d, .int .i64 a, .int .i64 b] : Array Value)[4]? = some (.int .i64 a) from rfl)
  have p5 := (BW9.cell 5).trans (show (#[Value.int .i64 k, .string nm, .int .i64 vr, .string d, .int .i64 a, .int .i64 b] : Array Value)[5]? = some (.int .i64 b) from rfl)

  by_cases hk3 : k = 3
  · have hk31 : (k == 3) = true := beq_iff_eq.2 hk3
    have l3 := encN_six vr
    have l4 := textB_len d (h3 hk3).2
    obtain ⟨Y, hY⟩ : ∃ Y, Y = X ++ encN vr := ⟨_, rfl⟩
    have lY : Y.length ≤ 37 := by rw [hY, List.length_append]; omega
    have E : Hid (R = Y ++ textB d) := hide (by rw [Hst.out, if_pos hk3, hY, HX.out]; simp [List.append_assoc])
    have HP2 := hide (fun wx Ax nx cx (h0 : Reads wx wx.heap.size 1 AT nT (bcs X)) (hx : Reads wx wx.heap.size 1 Ax nx (ics [vr])) => put_new AT nT cT X Ax nx cx [vr] wx Y (by rw [hY]; simp [Vlq.encs, encN]) (by have := hn4.out; omega) (by have := hx.1; simp [ics] at this; omega) h0 hx)
    have HT2 := hide (fun (A1 : Option Addr) (n1 c1 : Nat) (wx : World) (hn1 : n1 = Y.length) (hr1 : Reads wx wx.heap.size 1 A1 n1 (bcs Y)) => text_new A1 n1 c1 Y d wx (Y ++ textB d) rfl (by omega) (by have := (h3 hk3).2; omega) hr1)
    have q2 := cell_reg_q p2 BW9.lt
    have q3 := cell_reg_q p3 BW9.lt
    obtain ⟨Z, hZ⟩ : ∃ Z, Z = Y ++ textB d := ⟨_, rfl⟩
    rw [← hZ] at E HT2
    clear hY hZ hk3 h3 h4 h5 h6
    go_upto_region 4 with fail
    refine wp_region_grow [(18, isI [vr]), (19, isB w.heap.size Y), (22, isB w.heap.size Z)] [18, 19, 22]
      (by kernel_rfl) (by kernel_rfl) rfl (by kernel_rfl) (by kernel_rfl) ⟨isI_stable _, isB_stable _ _, isB_stable _ _, trivial⟩ ?_
    refine lex_quiet rfl rfl rfl (fun K hK => ?_); unfold Reg; go_big_quiet_op; refine hK _ ?_; clear hK K
    refine lex_quiet rfl rfl rfl (fun K hK => ?_); unfold Reg; go_big_quiet_op; refine hK _ ?_; clear hK K
    refine lex_quiet rfl rfl rfl (fun K hK => ?_); unfold Reg; go_big_quiet_op; refine hK _ ?_; clear hK K
    refine lex_rel rfl rfl (fun w' hb hK => ?_) (fun vv w' hb hv => ?_)
    · unfold grows
      go_simp
      exact ⟨alloc_b _ _, _, _, _, rfl, (Reads.new1 w' _ _).more (by simp)⟩
    obtain ⟨AI, nI, cI, rfl, hI⟩ := hv
    clear hI
    simp only [Act.put, List.setIfInBounds_toArray, List.set_cons_zero, List.set_cons_succ]
    refine lex_rel rfl rfl (fun w' hb hK => ?_) (fun vv w' hb hv => ?_)
    · obtain ⟨A6, n6, c6, e4, hN4_⟩ := hK.at_ 18 rfl rfl (slice_def _ _ _)
      have e4' : Value.slice AI nI cI = .slice A6 n6 c6 := e4
      injection e4' with e5 e6 e7
      subst e5 e6 e7
      unfold grows
      go_simp
      go_at_call 32
      refine (HP2.out w' _ _ _ ((hN4.2.2.2.below hb).more hb.size) hN4_).mono ?_
      rintro e w5 ⟨A5, n5, c5, rfl, hN5, hb5⟩
      exact ⟨_, rfl, hb5, A5, n5, c5, rfl, hN5.less (by have := hb.size; omega)⟩
    obtain ⟨AP, nP, cP, rfl, hP⟩ := hv
    clear hP
    simp only [Act.put, List.setIfInBounds_toArray, List.set_cons_zero, List.set_cons_succ]
    refine lex_quiet rfl rfl rfl (fun K hK => ?_); unfold Reg; go_big_quiet_op; refine hK _ ?_; clear hK K
    refine lex_quiet rfl rfl rfl (fun K hK => ?_); unfold Reg; go_big_quiet_op; refine hK _ ?_; clear hK K
    refine lex_rel rfl rfl (fun w' hb hK => ?_) (fun vv w' hb hv => ?_)
    · obtain ⟨A6, n6, c6, e4, hN6⟩ := hK.at_ 19 rfl rfl (slice_def _ _ _)
      have e4' : Value.slice AP nP cP = .slice A6 n6 c6 := e4
      injection e4' with e5 e6 e7
      subst e5 e6 e7
      unfold grows
      go_simp
      go_at_call 53
      refine (HT2.out _ _ _ w' hN6.1 hN6.2.2.2).mono ?_
      rintro e w5 ⟨A5, n5, c5, rfl, hN5, hb5⟩
      exact ⟨_, rfl, hb5, A5, n5, c5, rfl, hN5.less (by have := hb.size; omega)⟩
    obtain ⟨AU, nU, cU, rfl, hT⟩ := hv
    clear hT
    simp only [Act.put, List.setIfInBounds_toArray, List.set_cons_zero, List.set_cons_succ]
    refine lex_quiet rfl rfl rfl (fun K hK => ?_); unfold Reg; go_big_quiet_op; refine hK _ ?_; clear hK K

    refine lex_nil (fun w8 hC8 hK8 => ?_)
    have hb8 := reg_iff.1 hC8
    obtain ⟨A5, n5, c5, e4, hN5⟩ := hK8 7 _ 22 _ rfl rfl rfl (slice_def _ _ _)
    have e4' : Value.slice AU nU cU = .slice A5 n5 c5 := e4
    injection e4' with e5 e6 e7
    subst e5 e6 e7
    go_wp2
    go_ret
    exact ⟨_, _, _, rfl, by rw [E.out]; exact hN5, hbw9.trans (hb8.mono hs9)⟩
  · have hk31 : (k == 3) = false := beq_eq_false_iff_ne.2 hk3
    by_cases hk4 : k = 4
    · have hk41 : (k == 4) = true := beq_iff_eq.2 hk4
      have E : Hid (R = X ++ (encN a ++ encN b)) := hide (by rw [Hst.out, if_neg hk3, if_pos hk4, HX.out]; simp [List.append_assoc])
      have HP2 := hide (fun wx Ax cx (h0 : Reads wx wx.heap.size 1 AT nT (bcs X)) (hx : Reads wx wx.heap.size 1 Ax 2 (ics [a, b])) => put_new AT nT cT X Ax 2 cx [a, b] wx (X ++ (encN a ++ encN b)) (by simp [Vlq.encs, encN]) (by have := hn4.out; omega) (by omega) h0 hx)
      have Hr := hide (fun wx T g hg => reads_two wx a b T g hg)
      have hb2 := alloc_b w9 (.cells #[.int .i64 a, .int .i64 b] 3)
      have hr2 := (hN4.2.2.2.below hb2).more hb2.size
      clear hk3 hk4 h3 h4 h5 h6
      go_wp2_with (first
        | (go_at_call 32
           refine (HP2.out _ _ _ hr2 ((Hr.out _ _ _ rfl).more (by simp))).mono ?_
           rintro e w1 ⟨A1, n1, c1, rfl, hn1, hb1⟩))
      go_ret
      exact ⟨_, _, _, rfl, by rw [E.out]; exact hn1.less (by simp; omega), (hbw9.trans (hb2.mono hs9)).trans (hb1.mono (by simp; omega))⟩
    · have hk41 : (k == 4) = false := beq_eq_false_iff_ne.2 hk4
      have E : Hid (R = X) := hide (by rw [Hst.out, if_neg hk3, if_neg hk4, HX.out]; simp)
      clear hk3 hk4 h3 h4 h5 h6
      go_wp2
      go_ret
      exact ⟨_, _, _, rfl, by rw [E.out]; exact hN4, hbw9⟩
set_option maxHeartbeats 4000000 in
set_option maxRecDepth 100000 in
theorem putPf_yes (l : List Sp) (A : Option Addr) (n c : Nat) (w : World) (h : PfOn w A n l) (hn : n ≤ 1000000000) (hl : NamesS l) (hok : okPf l = true) :
    Calls Try.prog 17 #[.slice A n c] w (MakesB w (pfB l)) := by
  unfold MakesB
  obtain ⟨i0, hi0, hz0, hz1, hz2⟩ := info_parts info_u8
  have hlen := h.len
  have Hlen := hide hlen
  have hs := ok_all_steps hok
  have hok3 := okPf_steps hok
  have hn2 : n ≤ 1048576 := by omega
  have hfl : ∀ k, (flat stepB (l.take k)).length ≤ 70000000 := flatPf_len l hs hok3.1
  have HC := hide (fun (wx : World) (hx : Below w.heap.size w wx) => checkPf_any l A n c wx (h.on hx) hn hl)
  rw [hok] at HC
  have hsx := encN_six (n : Int)
  have HP := hide (fun wx Ax cx (hx : Reads wx wx.heap.size 1 Ax 1 (ics [(n : Int)])) => put_new none 0 0 [] Ax 1 cx [(n : Int)] wx _ (encs_one (n : Int)) (by omega) (by omega) Reads.none_ hx)
  have el : pfB l = encN (n : Int) ++ flat stepB l := by unfold pfB listB; rw [hlen]
  rw [el]
  generalize hX : encN (n : Int) = X at *
  have HX := hide hX
  clear hlen el hX hok hok3 hl
  go_enter Try.func17, Try.ntmps17
  go_wp2_with (first
    | (go_at_call 8
       refine (HC.out _ (Below.refl _ _)).mono ?_
       rintro e w0 ⟨rfl, hb0⟩
       have hbx := (hb0.alloc hb0.size (.cells #[.int .i64 (n : Int)] 3)))
    | (go_at_call 32
       refine (HP.out _ _ _ ((Reads.new1 w0 _ _).more ?_)).mono ?_
       . simp
       rintro e w1 ⟨A1, n1, c1, rfl, hn1, hb1⟩))
  have hbw := hbx.trans (hb1.mono hbx.size)
  have hown1 := (hn1.less hbx.size).2.2.1
  have hn1l := hn1.1
  subst hn1l
  clear hn1 hb1 HC hb0 hbx
  go_loopw [3, 15] (fun s t wx => ∃ i : Nat, i ≤ n ∧ t = .int .i64 (i : Int) ∧ wx.ownsRow w.heap.size 5 1 s (X ++ flat stepB (l.take i)).length (bcs (X ++ flat stepB (l.take i))) ∧ Below w.heap.size w wx) (fun _ t _ => n - (RowKit.intOf t).toNat)
  case atStart => exact ⟨0, by omega, rfl, by simpa [flat] using hown1, hbw⟩
  case round =>
    obtain ⟨i, hi, rfl, hown, hb⟩ := hrel
    have hbs := hb.size
    clear hown1 hbw
    by_cases hlt : i < n
    · obtain ⟨ad, q, rfl, hbl, hx, c0, c1, c2, c3, c4, c5⟩ := PfIn.at_ (PfIn.below h hb) hlt
      have hq := hs q (List.mem_of_getElem? hx)
      have HF := hide (fun wx => putStep_any q wx hq)
      unfold MakesB at HF
      have Hft := hide (flat_take stepB l i q hx)
      have hf1 := hfl i
      have hf2 := stepB_len q hq
      have hl1 : (X ++ flat stepB (l.take i)).length ≤ 80000000 := by rw [List.length_append]; omega
      obtain ⟨k, nm, vr, d, a, b⟩ := q
      simp only [] at c0 c1 c2 c3 c4 c5 HF
      have hbA := alloc_b wr (.cells #[.int .i64 k, .string nm, .int .i64 vr, .string d, .int .i64 a, .int .i64 b] 40)
      clear hx hs h hfl hq
      go_wp2_with (first
        | (go_at_call 33
           refine (HF.out _).mono ?_
           rintro e w6 ⟨A6, n6, c6, rfl, hn6, hb6⟩
           have hb56 : Below wr.heap.size wr w6 := hbA.trans (hb6.mono hbA.size)
           have hbw6 : Below w.heap.size w w6 := hb.trans (hb56.mono hbs)
           have hown6 := own_below hown hb56
           have Hl6 := hide hn6.1)
        | (at_builtin
           refine wpList_append_any _ rfl (.tmp 19) (.tmp 21) _ rfl w.heap.size 5 i0 _ 1 1 Try.underlying30 hi0 hz0 hz1 hz2 rfl (by omega) _ _ _ rfl
             hown6 w6.heap.size A6 n6 c6 _ rfl hn6.2.2.2 (bcs_one _) (by have := Hl6.out; simp only [maxLen]; omega) (by have := Hl6.out; omega) hbw6.size ?_
           intro v7 w7 hown7 hg7 hat7
           rw [← bcs_append, Hl6.out, ← List.length_append, List.append_assoc, ← Hft.out] at hown7
           have hb7 : Below w.heap.size w w7 := hbw6.grown hg7 hbw6.size (fun k hk => (hown6.lt k hk).1)))
      go_roundw
      case rel => exact ⟨i + 1, by omega, by go_num, hown7, hb7⟩
      case measure => simp [RowKit.intOf]; omega
    · have hi2 : i = n := by omega
      subst hi2
      rw [List.take_of_length_le (by rw [Hlen.out]; exact Nat.le_refl _)] at hown
      obtain ⟨A9, c9, rfl, hN9⟩ := new_of_own hown
      go_wp2
      go_ret
      exact ⟨_, _, _, rfl, hN9, hb⟩
theorem specPutPf : SpecPutPf := by
  intro l A n c w h hn hl
  cases hok : okPf l with
  | true =>
    have e : putPf l = pfB l := by unfold putPf; rw [if_pos hok]
    rw [e]
    exact putPf_yes l A n c w h hn hl hok
  | false =>
    have e : putPf l = [] := by unfold putPf; rw [if_neg (by rw [hok]; simp)]
    have HC := hide (checkPf_any l A n c w h hn hl)
    rw [hok] at HC
    rw [e]
    clear e
    go_enter Try.func17, Try.ntmps17
    go_wp2_with (first
      | (go_at_call 8
         refine HC.out.mono ?_
         rintro e w0 ⟨rfl, hb0⟩))
    go_ret
    exact ⟨none, 0, 0, rfl, ⟨rfl, Nat.le_refl _, World.ownsRow_nil _ _ _ _, Reads.none_⟩, hb0⟩
end Go.Proofs.Ytdggnakjfcmnmaa.Proof
/-
  The contracts of the program's takeStep, take and Read: what the plain mathematics tells, or what is wrong first. Condition: no more bytes than may be read.
-/
namespace Go.Proofs.Ytdggnakjfcmnmaa.Proof
open Go Go.RowKit Go.Lib Go.Proofs.Ytdggnakjfcmnmaa.Need Go.Proofs.Ytdggnakjfcmnmaa.Wire
set_option linter.unusedVariables false
theorem step_3 {s : St} (h : (numS 4 s).1 = 3) : stepS s = (⟨3, str (strS 24 (numS 4 s).2).1, (numS 1000000000 (strS 24 (numS 4 s).2).2).1, str (strS 24 (numS 1000000000 (strS 24 (numS 4 s).2).2).2).1, 0, 0⟩, (strS 24 (numS 1000000000 (strS 24 (numS 4 s).2).2).2).2) := by
  unfold stepS kindS nameS
  simp only [h, if_true]
theorem step_4 {s : St} (h : (numS 4 s).1 = 4) : stepS s = (⟨4, str (strS 24 (numS 4 s).2).1, 0, ByteArray.empty, (numS 1048576 (strS 24 (numS 4 s).2).2).1, (numS 1048576 (numS 1048576 (strS 24 (numS 4 s).2).2).2).1⟩, (numS 1048576 (numS 1048576 (strS 24 (numS 4 s).2).2).2).2) := by
  unfold stepS kindS nameS
  simp only [h, if_true, show ¬ (4 : Int) = 3 by omega, if_false]
theorem step_0 {s : St} (h3 : ¬ (numS 4 s).1 = 3) (h4 : ¬ (numS 4 s).1 = 4) : stepS s = (⟨(numS 4 s).1, str (strS 24 (numS 4 s).2).1, 0, ByteArray.empty, 0, 0⟩, (strS 24 (numS 4 s).2).2) := by
  unfold stepS kindS nameS
  simp only [h3, h4, if_false]
theorem blk_farP {w w' : World} {b g : Nat} {t : TypeId} {cs : Array Value} (h : Blk w b t cs) (hne : b ≠ g) (hg : w.grownBy w' (some g)) : Blk w' b t cs := h.grown hg (by intro e; injection e with e; exact hne e)
theorem only_thenP {a b c : World} {row row' : Option Nat} (h : a.grownBy b row) (k : b.grownBy c row') (hr : ∀ j, row' = some j → a.heap.size ≤ j ∨ row = some j) : a.grownBy c row :=
  ⟨k.os.trans h.os, k.tape.trans h.tape, k.output.trans h.output, Nat.le_trans h.size k.size, fun i hi hne => (k.block i (Nat.lt_of_lt_of_le hi h.size) (fun e => by
    rcases hr i e.symm with h2 | h2
    · omega
    · exact hne h2.symm)).trans (h.block i hi hne)⟩
theorem alloc_onlyP (w : World) (o : Obj) (row : Option Nat) : w.grownBy (w.alloc o) row := World.grownBy_alloc w o row
def TakesP (w : World) (g : Nat) (r : Sp × St) (e : Ending) (w' : World) : Prop :=
  e = .returned (.agg #[.int .i64 r.1.kind, .string r.1.name, .int .i64 r.1.ver, .string r.1.dest, .int .i64 r.1.a, .int .i64 r.1.b]) ∧ RdS w' g r.2 ∧ w.grownBy w' (some g)
set_option maxHeartbeats 4000000 in
set_option maxRecDepth 100000 in
theorem takeStep_0 (g : Nat) (s : St) (w : World) (hr : RdS w g s) (hk3 : ¬ (numS 4 s).1 = 3) (hk4 : ¬ (numS 4 s).1 = 4) : Calls Try.prog 55 #[.pointer (some ⟨g, 0, none⟩)] w (TakesP w g (stepS s)) := by
  unfold TakesP
  have H1 := hide (fun (wx : World) (h : RdS wx g s) => num_S g s 4 wx h)
  have H2 := hide (fun (wx : World) (h : RdS wx g (numS 4 s).2) => str_S g (numS 4 s).2 24 wx h)
  rw [step_0 hk3 hk4]
  simp only []
  generalize (strS 24 (numS 4 s).2).2 = s2 at *
  generalize str (strS 24 (numS 4 s).2).1 = nm at *
  generalize (numS 4 s).2 = s1 at *
  generalize (numS 4 s).1 = k at *
  have hk31 : (k == 3) = false := beq_eq_false_iff_ne.2 hk3
  have hk41 : (k == 4) = false := beq_eq_false_iff_ne.2 hk4
  clear hk3 hk4
  have hglt := hr.lt
  obtain ⟨W, hW⟩ : ∃ W, W = w.alloc (.cells #[.int .i64 0, .string ⟨#[]⟩, .int .i64 0, .string ⟨#[]⟩, .int .i64 0, .int .i64 0] 40) := ⟨_, rfl⟩
  have hgW : w.grownBy W (some g) := by rw [hW]; exact alloc_onlyP _ _ _
  have hBR : Blk W w.heap.size 40 #[.int .i64 0, .string ⟨#[]⟩, .int .i64 0, .string ⟨#[]⟩, .int .i64 0, .int .i64 0] := by rw [hW]; exact Blk.new _ _ _
  have hr' : RdS W g s := by rw [hW]; exact hr.alloc _
  have hgs := hgW.size
  go_enter Try.func55, Try.ntmps55
  go_upto_region 1 with fail
  rw [← hW]
  clear hW hr
  go_upto_region 2 with (first
    | (go_at_call 66
       refine (H2.out _ hr1).mono ?_
       rintro e w2 ⟨rfl, hr2, hg2⟩
       have hBR2 := blk_farP hBR1 (by omega) hg2
       have hgw2 := only_thenP hgw1 hg2 (fun j hj => .inr hj))
    | (go_at_call 54
       refine (H1.out _ hr').mono ?_
       rintro e w1 ⟨rfl, hr1, hg1⟩
       have hBR1 := blk_farP hBR (by omega) hg1
       have hgw1 := only_thenP hgW hg1 (fun j hj => .inr hj)))
  have BX := Blk.new w2 40 #[.int .i64 k, .string nm, .int .i64 0, .string ⟨#[]⟩, .int .i64 0, .int .i64 0]
  have hBR3 := hBR2.alloc (.cells #[.int .i64 k, .string nm, .int .i64 0, .string ⟨#[]⟩, .int .i64 0, .int .i64 0] 40)
  have hr3 := hr2.alloc (.cells #[.int .i64 k, .string nm, .int .i64 0, .string ⟨#[]⟩, .int .i64 0, .int .i64 0] 40)
  have hgw3 := only_thenP hgw2 (alloc_onlyP w2 (.cells #[.int .i64 k, .string nm, .int .i64 0, .string ⟨#[]⟩, .int .i64 0, .int .i64 0] 40) (some g)) (fun j hj => .inr hj)
  have hgl := hr2.lt
  have hRl := hBR2.lt
  clear hBR hBR1 hBR2 hr' hr1 hr2 hg1 hg2 hgW hgw1 hgw2 H1 H2 hgs
  generalize w2.alloc (.cells #[.int .i64 k, .string nm, .int .i64 0, .string ⟨#[]⟩, .int .i64 0, .int .i64 0] 40) = W3 at *
  generalize w2.heap.size = gb at *
  have p0 := (BX.cell 0).trans (show (#[Value.int .i64 k, .string nm, .int .i64 0, .string ⟨#[]⟩, .int .i64 0, .int .i64 0] : Array Value)[0]? = some (.int .i64 k) from rfl)
  go_upto_region 7 with fail
  have hr7 := hr3
  have hgw7 := hgw3
  have BR := hBR3
  clear hBR3 hr3 hgw3 p0
  have p0 := (BX.cell 0).trans (show (#[Value.int .i64 k, .string nm, .int .i64 0, .string ⟨#[]⟩, .int .i64 0, .int .i64 0] : Array Value)[0]? = some (.int .i64 k) from rfl)
  have p1 := (BX.cell 1).trans (show (#[Value.int .i64 k, .string nm, .int .i64 0, .string ⟨#[]⟩, .int .i64 0, .int .i64 0] : Array Value)[1]? = some (.string nm) from rfl)
  have p2 := (BX.cell 2).trans (show (#[Value.int .i64 k, .string nm, .int .i64 0, .string ⟨#[]⟩, .int .i64 0, .int .i64 0] : Array Value)[2]? = some (.int .i64 0) from rfl)
  have p3 := (BX.cell 3).trans (show (#[Value.int .i64 k, .string nm, .int .i64 0, .string ⟨#[]⟩, .int .i64 0, .int .i64 0] : Array Value)[3]? = some (.string ⟨#[]⟩) from rfl)
  have p4 := (BX.cell 4).trans (show (#[Value.int .i64 k, .string nm, .int .i64 0, .string ⟨#[]⟩, .int .i64 0, .int .i64 0] : Array Value)[4]? = some (.int .i64 0) from rfl)
  have p5 := (BX.cell 5).trans (show (#[Value.int .i64 k, .string nm, .int .i64 0, .string ⟨#[]⟩, .int .i64 0, .int .i64 0] : Array Value)[5]? = some (.int .i64 0) from rfl)
  have B0 := BR
  have c0 := (B0.cell 0).trans (show _ = some (Value.int .i64 0) from rfl)
  have f0 := B0.frozen 0
  have B1 := B0.set_ 0 (.int .i64 k)
  have c1 := (B1.cell 1).trans (show _ = some (Value.string ⟨#[]⟩) from rfl)
  have f1 := B1.frozen 1
  have B2 := B1.set_ 1 (.string nm)
  have c2 := (B2.cell 2).trans (show _ = some (Value.int .i64 0) from rfl)
  have f2 := B2.frozen 2
  have B3 := B2.set_ 2 (.int .i64 0)
  have c3 := (B3.cell 3).trans (show _ = some (Value.string ⟨#[]⟩) from rfl)
  have f3 := B3.frozen 3
  have B4 := B3.set_ 3 (.string ⟨#[]⟩)
  have c4 := (B4.cell 4).trans (show _ = some (Value.int .i64 0) from rfl)
  have f4 := B4.frozen 4
  have B5 := B4.set_ 4 (.int .i64 0)
  have c5 := (B5.cell 5).trans (show _ = some (Value.int .i64 0) from rfl)
  have f5 := B5.frozen 5
  have B6 := B5.set_ 5 (.int .i64 0)
  have hgs := only_setCell (p := ⟨w.heap.size, 5, none⟩) (only_setCell (p := ⟨w.heap.size, 4, none⟩) (only_setCell (p := ⟨w.heap.size, 3, none⟩) (only_setCell (p := ⟨w.heap.size, 2, none⟩) (only_setCell (p := ⟨w.heap.size, 1, none⟩) (only_setCell (p := ⟨w.heap.size, 0, none⟩) (only_self W3 w.heap.size) (.inl rfl) (.int .i64 k)) (.inl rfl) (.string nm)) (.inl rfl) (.int .i64 0)) (.inl rfl) (.string ⟨#[]⟩)) (.inl rfl) (.int .i64 0)) (.inl rfl) (.int .i64 0)
  clear BX BR
  go_wp2
  refine bodyPost_ret (results_cell_row rfl _ _ w.heap.size 40 _ (0, 0) _ rfl B6 Try.underlying40 rfl rfl) rfl ?_
  exact ⟨rfl, hr7.grown hgs (fun k hk => by injection hk with hk; omega), only_thenP hgw7 hgs fun j hj => .inl (by injection hj with hj; omega)⟩
set_option maxHeartbeats 4000000 in
set_option maxRecDepth 100000 in
theorem takeStep_3 (g : Nat) (s : St) (w : World) (hr : RdS w g s) (hk3 : (numS 4 s).1 = 3) : Calls Try.prog 55 #[.pointer (some ⟨g, 0, none⟩)] w (TakesP w g (stepS s)) := by
  unfold TakesP
  have H1 := hide (fun (wx : World) (h : RdS wx g s) => num_S g s 4 wx h)
  have H2 := hide (fun (wx : World) (h : RdS wx g (numS 4 s).2) => str_S g (numS 4 s).2 24 wx h)
  have H3 := hide (fun (wx : World) (h : RdS wx g (strS 24 (numS 4 s).2).2) => num_S g (strS 24 (numS 4 s).2).2 1000000000 wx h)
  have H4 := hide (fun (wx : World) (h : RdS wx g (numS 1000000000 (strS 24 (numS 4 s).2).2).2) => str_S g (numS 1000000000 (strS 24 (numS 4 s).2).2).2 24 wx h)
  rw [step_3 hk3]
  simp only []
  rw [hk3] at H1
  generalize (strS 24 (numS 1000000000 (strS 24 (numS 4 s).2).2).2).2 = s4 at *
  generalize str (strS 24 (numS 1000000000 (strS 24 (numS 4 s).2).2).2).1 = d at *
  generalize (numS 1000000000 (strS 24 (numS 4 s).2).2).2 = s3 at *
  generalize (numS 1000000000 (strS 24 (numS 4 s).2).2).1 = vr at *
  generalize (strS 24 (numS 4 s).2).2 = s2 at *
  generalize str (strS 24 (numS 4 s).2).1 = nm at *
  generalize (numS 4 s).2 = s1 at *
  clear hk3
  have hglt := hr.lt
  obtain ⟨W, hW⟩ : ∃ W, W = w.alloc (.cells #[.int .i64 0, .string ⟨#[]⟩, .int .i64 0, .string ⟨#[]⟩, .int .i64 0, .int .i64 0] 40) := ⟨_, rfl⟩
  have hgW : w.grownBy W (some g) := by rw [hW]; exact alloc_onlyP _ _ _
  have hBR : Blk W w.heap.size 40 #[.int .i64 0, .string ⟨#[]⟩, .int .i64 0, .string ⟨#[]⟩, .int .i64 0, .int .i64 0] := by rw [hW]; exact Blk.new _ _ _
  have hr' : RdS W g s := by rw [hW]; exact hr.alloc _
  have hgs := hgW.size
  go_enter Try.func55, Try.ntmps55
  go_upto_region 1 with fail
  rw [← hW]
  clear hW hr
  go_upto_region 2 with (first
    | (go_at_call 66
       refine (H2.out _ hr1).mono ?_
       rintro e w2 ⟨rfl, hr2, hg2⟩
       have hBR2 := blk_farP hBR1 (by omega) hg2
       have hgw2 := only_thenP hgw1 hg2 (fun j hj => .inr hj))
    | (go_at_call 54
       refine (H1.out _ hr').mono ?_
       rintro e w1 ⟨rfl, hr1, hg1⟩
       have hBR1 := blk_farP hBR (by omega) hg1
       have hgw1 := only_thenP hgW hg1 (fun j hj => .inr hj)))
  have BX := Blk.new w2 40 #[.int .i64 3, .string nm, .int .i64 0, .string ⟨#[]⟩, .int .i64 0, .int .i64 0]
  have hBR3 := hBR2.alloc (.cells #[.int .i64 3, .string nm, .int .i64 0, .string ⟨#[]⟩, .int .i64 0, .int .i64 0] 40)
  have hr3 := hr2.alloc (.cells #[.int .i64 3, .string nm, .int .i64 0, .string ⟨#[]⟩, .int .i64 0, .int .i64 0] 40)
  have hgw3 := only_thenP hgw2 (alloc_onlyP w2 (.cells #[.int .i64 3, .string nm, .int .i64 0, .string ⟨#[]⟩, .int .i64 0, .int .i64 0] 40) (some g)) (fun j hj => .inr hj)
  have hgl := hr2.lt
  have hRl := hBR2.lt
  clear hBR hBR1 hBR2 hr' hr1 hr2 hg1 hg2 hgW hgw1 hgw2 H1 H2 hgs
  generalize w2.alloc (.cells #[.int .i64 3, .string nm, .int .i64 0, .string ⟨#[]⟩, .int .i64 0, .int .i64 0] 40) = W3 at *
  generalize w2.heap.size = gb at *
  have p0 := (BX.cell 0).trans (show (#[Value.int .i64 3, .string nm, .int .i64 0, .string ⟨#[]⟩, .int .i64 0, .int .i64 0] : Array Value)[0]? = some (.int .i64 3) from rfl)
  go_upto_region 4 with fail
  clear p0
  go_upto_region 7 with (first
    | (go_at_call 66
       refine (H4.out _ hr4).mono ?_
       rintro e w5 ⟨rfl, hr5, hg5⟩
       have hBR5 := blk_farP hBR4 (by omega) hg5
       have BX5 := blk_farP BX4 (by omega) hg5
       have hgw5 := only_thenP hgw4 hg5 (fun j hj => .inr hj)
       have x2 := (BX5.cell 2).trans (show _ = some (Value.int .i64 0) from rfl)
       have x3 := ((BX5.set_ 2 (.int .i64 vr)).cell 3).trans (show _ = some (Value.string ⟨#[]⟩) from rfl)
       have y2 := BX5.frozen 2
       have y3 := (BX5.set_ 2 (.int .i64 vr)).frozen 3)
    | (go_at_call 54
       refine (H3.out _ hr3).mono ?_
       rintro e w4 ⟨rfl, hr4, hg4⟩
       have hBR4 := blk_farP hBR3 (by omega) hg4
       have BX4 := blk_farP BX (by omega) hg4
       have hgw4 := only_thenP hgw3 hg4 (fun j hj => .inr hj)))
  have hg7 := only_setCell (p := ⟨gb, 3, none⟩) (only_setCell (p := ⟨gb, 2, none⟩) (only_self w5 gb) (.inl rfl) (.int .i64 vr)) (.inl rfl) (.string d)
  have BX := (BX5.set_ 2 (.int .i64 vr)).set_ 3 (.string d)
  have BR := hBR5.grown hg7 (fun e => by injection e with e; omega)
  have hr7 := hr5.grown hg7 (fun k hk => by injection hk with hk; omega)
  have hgw7 := only_thenP hgw5 hg7 (fun j hj => .inl (by injection hj with hj; omega))
  clear x2 x3 y2 y3 BX4 BX5 hBR3 hBR4 hBR5 hr3 hr4 hr5 hg4 hg5 hg7 hgw3 hgw4 hgw5 H3 H4
  generalize (w5.setCell ⟨gb, 2, none⟩ (.int .i64 vr)).setCell ⟨gb, 3, none⟩ (.string d) = W7 at *
  have BX : Blk W7 gb 40 #[.int .i64 3, .string nm, .int .i64 vr, .string d, .int .i64 0, .int .i64 0] := BX
  have p0 := (BX.cell 0).trans (show (#[Value.int .i64 3, .string nm, .int .i64 vr, .string d, .int .i64 0, .int .i64 0] : Array Value)[0]? = some (.int .i64 3) from rfl)
  have p1 := (BX.cell 1).trans (show (#[Value.int .i64 3, .string nm, .int .i64 vr, .string d, .int .i64 0, .int .i64 0] : Array Value)[1]? = some (.string nm) from rfl)
  have p2 := (BX.cell 2).trans (show (#[Value.int .i64 3, .string nm, .int .i64 vr, .string d, .int .i64 0, .int .i64 0] : Array Value)[2]? = some (.int .i64 vr) from rfl)
  have p3 := (BX.cell 3).trans (show (#[Value.int .i64 3, .string nm, .int .i64 vr, .string d, .int .i64 0, .int .i64 0] : Array Value)[3]? = some (.string d) from rfl)
  have p4 := (BX.cell 4).trans (show (#[Value.int .i64 3, .string nm, .int .i64 vr, .string d, .int .i64 0, .int .i64 0] : Array Value)[4]? = some (.int .i64 0) from rfl)
  have p5 := (BX.cell 5).trans (show (#[Value.int .i64 3, .string nm, .int .i64 vr, .string d, .int .i64 0, .int .i64 0] : Array Value)[5]? = some (.int .i64 0) from rfl)
  have B0 := BR
  have c0 := (B0.cell 0).trans (show _ = some (Value.int .i64 0) from rfl)
  have f0 := B0.frozen 0
  have B1 := B0.set_ 0 (.int .i64 3)
  have c1 := (B1.cell 1).trans (show _ = some (Value.string ⟨#[]⟩) from rfl)
  have f1 := B1.frozen 1
  have B2 := B1.set_ 1 (.string nm)
  have c2 := (B2.cell 2).trans (show _ = some (Value.int .i64 0) from rfl)
  have f2 := B2.frozen 2
  have B3 := B2.set_ 2 (.int .i64 vr)
  have c3 := (B3.cell 3).trans (show _ = some (Value.string ⟨#[]⟩) from rfl)
  have f3 := B3.frozen 3
  have B4 := B3.set_ 3 (.string d)
  have c4 := (B4.cell 4).trans (show _ = some (Value.int .i64 0) from rfl)
  have f4 := B4.frozen 4
  have B5 := B4.set_ 4 (.int .i64 0)
  have c5 := (B5.cell 5).trans (show _ = some (Value.int .i64 0) from rfl)
  have f5 := B5.frozen 5
  have B6 := B5.set_ 5 (.int .i64 0)
  have hgs := only_setCell (p := ⟨w.heap.size, 5, none⟩) (only_setCell (p := ⟨w.heap.size, 4, none⟩) (only_setCell (p := ⟨w.heap.size, 3, none⟩) (only_setCell (p := ⟨w.heap.size, 2, none⟩) (only_setCell (p := ⟨w.heap.size, 1, none⟩) (only_setCell (p := ⟨w.heap.size, 0, none⟩) (only_self W7 w.heap.size) (.inl rfl) (.int .i64 3)) (.inl rfl) (.string nm)) (.inl rfl) (.int .i64 vr)) (.inl rfl) (.string d)) (.inl rfl) (.int .i64 0)) (.inl rfl) (.int .i64 0)
  clear BX BR
  go_wp2
  refine bodyPost_ret (results_cell_row rfl _ _ w.heap.size 40 _ (0, 0) _ rfl B6 Try.underlying40 rfl rfl) rfl ?_
  exact ⟨rfl, hr7.grown hgs (fun k hk => by injection hk with hk; omega), only_thenP hgw7 hgs fun j hj => .inl (by injection hj with hj; omega)⟩
set_option maxHeartbeats 4000000 in
set_option maxRecDepth 100000 in
theorem takeStep_4 (g : Nat) (s : St) (w : World) (hr : RdS w g s) (hk4 : (numS 4 s).1 = 4) : Calls Try.prog 55 #[.pointer (some ⟨g, 0, none⟩)] w (TakesP w g (stepS s)) := by
  unfold TakesP
  have H1 := hide (fun (wx : World) (h : RdS wx g s) => num_S g s 4 wx h)
  have H2 := hide (fun (wx : World) (h : RdS wx g (numS 4 s).2) => str_S g (numS 4 s).2 24 wx h)
  have H3 := hide (fun (wx : World) (h : RdS wx g (strS 24 (numS 4 s).2).2) => num_S g (strS 24 (numS 4 s).2).2 1048576 wx h)
  have H4 := hide (fun (wx : World) (h : RdS wx g (numS 1048576 (strS 24 (numS 4 s).2).2).2) => num_S g (numS 1048576 (strS 24 (numS 4 s).2).2).2 1048576 wx h)
  rw [step_4 hk4]
  simp only []
  rw [hk4] at H1
  generalize (numS 1048576 (numS 1048576 (strS 24 (numS 4 s).2).2).2).2 = s4 at *
  generalize (numS 1048576 (numS 1048576 (strS 24 (numS 4 s).2).2).2).1 = b at *
  generalize (numS 1048576 (strS 24 (numS 4 s).2).2).2 = s3 at *
  generalize (numS 1048576 (strS 24 (numS 4 s).2).2).1 = a at *
  generalize (strS 24 (numS 4 s).2).2 = s2 at *
  generalize str (strS 24 (numS 4 s).2).1 = nm at *
  generalize (numS 4 s).2 = s1 at *
  clear hk4
  have hglt := hr.lt
  obtain ⟨W, hW⟩ : ∃ W, W = w.alloc (.cells #[.int .i64 0, .string ⟨#[]⟩, .int .i64 0, .string ⟨#[]⟩, .int .i64 0, .int .i64 0] 40) := ⟨_, rfl⟩
  have hgW : w.grownBy W (some g) := by rw [hW]; exact alloc_onlyP _ _ _
  have hBR : Blk W w.heap.size 40 #[.int .i64 0, .string ⟨#[]⟩, .int .i64 0, .string ⟨#[]⟩, .int .i64 0, .int .i64 0] := by rw [hW]; exact Blk.new _ _ _
  have hr' : RdS W g s := by rw [hW]; exact hr.alloc _
  have hgs := hgW.size
  go_enter Try.func55, Try.ntmps55
  go_upto_region 1 with fail
  rw [← hW]
  clear hW hr
  go_upto_region 2 with (first
    | (go_at_call 66
       refine (H2.out _ hr1).mono ?_
       rintro e w2 ⟨rfl, hr2, hg2⟩
       have hBR2 := blk_farP hBR1 (by omega) hg2
       have hgw2 := only_thenP hgw1 hg2 (fun j hj => .inr hj))
    | (go_at_call 54
       refine (H1.out _ hr').mono ?_
       rintro e w1 ⟨rfl, hr1, hg1⟩
       have hBR1 := blk_farP hBR (by omega) hg1
       have hgw1 := only_thenP hgW hg1 (fun j hj => .inr hj)))
  have BX := Blk.new w2 40 #[.int .i64 4, .string nm, .int .i64 0, .string ⟨#[]⟩, .int .i64 0, .int .i64 0]
  have hBR3 := hBR2.alloc (.cells #[.int .i64 4, .string nm, .int .i64 0, .string ⟨#[]⟩, .int .i64 0, .int .i64 0] 40)
  have hr3 := hr2.alloc (.cells #[.int .i64 4, .string nm, .int .i64 0, .string ⟨#[]⟩, .int .i64 0, .int .i64 0] 40)
  have hgw3 := only_thenP hgw2 (alloc_onlyP w2 (.cells #[.int .i64 4, .string nm, .int .i64 0, .string ⟨#[]⟩, .int .i64 0, .int .i64 0] 40) (some g)) (fun j hj => .inr hj)
  have hgl := hr2.lt
  have hRl := hBR2.lt
  clear hBR hBR1 hBR2 hr' hr1 hr2 hg1 hg2 hgW hgw1 hgw2 H1 H2 hgs
  generalize w2.alloc (.cells #[.int .i64 4, .string nm, .int .i64 0, .string ⟨#[]⟩, .int .i64 0, .int .i64 0] 40) = W3 at *
  generalize w2.heap.size = gb at *
  have p0 := (BX.cell 0).trans (show (#[Value.int .i64 4, .string nm, .int .i64 0, .string ⟨#[]⟩, .int .i64 0, .int .i64 0] : Array Value)[0]? = some (.int .i64 4) from rfl)
  go_upto_region 6 with fail
  clear p0
  go_upto_region 7 with (first
    | (go_at_call 54
       refine (H4.out _ hr4).mono ?_
       rintro e w5 ⟨rfl, hr5, hg5⟩
       have hBR5 := blk_farP hBR4 (by omega) hg5
       have BX5 := blk_farP BX4 (by omega) hg5
       have hgw5 := only_thenP hgw4 hg5 (fun j hj => .inr hj)
       have x2 := (BX5.cell 4).trans (show _ = some (Value.int .i64 0) from rfl)
       have x3 := ((BX5.set_ 4 (.int .i64 a)).cell 5).trans (show _ = some (Value.int .i64 0) from rfl)
       have y2 := BX5.frozen 4
       have y3 := (BX5.set_ 4 (.int .i64 a)).frozen 5)
    | (go_at_call 54
       refine (H3.out _ hr3).mono ?_
       rintro e w4 ⟨rfl, hr4, hg4⟩
       have hBR4 := blk_farP hBR3 (by omega) hg4
       have BX4 := blk_farP BX (by omega) hg4
       have hgw4 := only_thenP hgw3 hg4 (fun j hj => .inr hj)))
  have hg7 := only_setCell (p := ⟨gb, 5, none⟩) (only_setCell (p := ⟨gb, 4, none⟩) (only_self w5 gb) (.inl rfl) (.int .i64 a)) (.inl rfl) (.int .i64 b)
  have BX := (BX5.set_ 4 (.int .i64 a)).set_ 5 (.int .i64 b)
  have BR := hBR5.grown hg7 (fun e => by injection e with e; omega)
  have hr7 := hr5.grown hg7 (fun k hk => by injection hk with hk; omega)
  have hgw7 := only_thenP hgw5 hg7 (fun j hj => .inl (by injection hj with hj; omega))
  clear x2 x3 y2 y3 BX4 BX5 hBR3 hBR4 hBR5 hr3 hr4 hr5 hg4 hg5 hg7 hgw3 hgw4 hgw5 H3 H4
  generalize (w5.setCell ⟨gb, 4, none⟩ (.int .i64 a)).setCell ⟨gb, 5, none⟩ (.int .i64 b) = W7 at *
  have BX : Blk W7 gb 40 #[.int .i64 4, .string nm, .int .i64 0, .string ⟨#[]⟩, .int .i64 a, .int .i64 b] := BX
  have p0 := (BX.cell 0).trans (show (#[Value.int .i64 4, .string nm, .int .i64 0, .string ⟨#[]⟩, .int .i64 a, .int .i64 b] : Array Value)[0]? = some (.int .i64 4) from rfl)
  have p1 := (BX.cell 1).trans (show (#[Value.int .i64 4, .string nm, .int .i64 0, .string ⟨#[]⟩, .int .i64 a, .int .i64 b] : Array Value)[1]? = some (.string nm) from rfl)
  have p2 := (BX.cell 2).trans (show (#[Value.int .i64 4, .string nm, .int .i64 0, .string ⟨#[]⟩, .int .i64 a, .int .i64 b] : Array Value)[2]? = some (.int .i64 0) from rfl)
  have p3 := (BX.cell 3).trans (show (#[Value.int .i64 4, .string nm, .int .i64 0, .string ⟨#[]⟩, .int .i64 a, .int .i64 b] : Array Value)[3]? = some (.string ⟨#[]⟩) from rfl)
  have p4 := (BX.cell 4).trans (show (#[Value.int .i64 4, .string nm, .int .i64 0, .string ⟨#[]⟩, .int .i64 a, .int .i64 b] : Array Value)[4]? = some (.int .i64 a) from rfl)
  have p5 := (BX.cell 5).trans (show (#[Value.int .i64 4, .string nm, .int .i64 0, .string ⟨#[]⟩, .int .i64 a, .int .i64 b] : Array Value)[5]? = some (.int .i64 b) from rfl)
  have B0 := BR
  have c0 := (B0.cell 0).trans (show _ = some (Value.int .i64 0) from rfl)
  have f0 := B0.frozen 0
  have B1 := B0.set_ 0 (.int .i64 4)
  have c1 := (B1.cell 1).trans (show _ = some (Value.string ⟨#[]⟩) from rfl)
  have f1 := B1.frozen 1
  have B2 := B1.set_ 1 (.string nm)
  have c2 := (B2.cell 2).trans (show _ = some (Value.int .i64 0) from rfl)
  have f2 := B2.frozen 2
  have B3 := B2.set_ 2 (.int .i64 0)
  have c3 := (B3.cell 3).trans (show _ = some (Value.string ⟨#[]⟩) from rfl)
  have f3 := B3.frozen 3
  have B4 := B3.set_ 3 (.string ⟨#[]⟩)
  have c4 := (B4.cell 4).trans (show _ = some (Value.int .i64 0) from rfl)
  have f4 := B4.frozen 4
  have B5 := B4.set_ 4 (.int .i64 a)
  have c5 := (B5.cell 5).trans (show _ = some (Value.int .i64 0) from rfl)
  have f5 := B5.frozen 5
  have B6 := B5.set_ 5 (.int .i64 b)
  have hgs := only_setCell (p := ⟨w.heap.size, 5, none⟩) (only_setCell (p := ⟨w.heap.size, 4, none⟩) (only_setCell (p := ⟨w.heap.size, 3, none⟩) (only_setCell (p := ⟨w.heap.size, 2, none⟩) (only_setCell (p := ⟨w.heap.size, 1, none⟩) (only_setCell (p := ⟨w.heap.size, 0, none⟩) (only_self W7 w.heap.size) (.inl rfl) (.int .i64 4)) (.inl rfl) (.string nm)) (.inl rfl) (.int .i64 0)) (.inl rfl) (.string ⟨#[]⟩)) (.inl rfl) (.int .i64 a)) (.inl rfl) (.int .i64 b)
  clear BX BR
  go_wp2
  refine bodyPost_ret (results_cell_row rfl _ _ w.heap.size 40 _ (0, 0) _ rfl B6 Try.underlying40 rfl rfl) rfl ?_
  exact ⟨rfl, hr7.grown hgs (fun k hk => by injection hk with hk; omega), only_thenP hgw7 hgs fun j hj => .inl (by injection hj with hj; omega)⟩
theorem takeStep_any (g : Nat) (s : St) (w : World) (hr : RdS w g s) : Calls Try.prog 55 #[.pointer (some ⟨g, 0, none⟩)] w (TakesP w g (stepS s)) := by
  by_cases hk3 : (numS 4 s).1 = 3
  · exact takeStep_3 g s w hr hk3
  · by_cases hk4 : (numS 4 s).1 = 4
    · exact takeStep_4 g s w hr hk4
    · exact takeStep_0 g s w hr hk3 hk4
theorem err_S (g : Nat) (s : St) (w : World) (h : RdS w g s) : Calls Try.prog 56 #[.pointer (some ⟨g, 0, none⟩)] w fun e w' => e = .returned (.int .i64 s.2) ∧ w = w' := by
  obtain ⟨L, j, h1, _⟩ := h
  exact Vlq.err_any g L j s.2 w h1
def TakesL (w : World) (g N : Nat) (s1 : St) (e : Ending) (w' : World) : Prop :=
  ∃ A c i, e = .returned (.slice A i c) ∧ i ≤ N ∧ (i = N ∨ (listS stepS i s1).2.2 ≠ 0) ∧ NewPf w' w.heap.size A i c (listS stepS i s1).1 ∧ RdS w' g (listS stepS i s1).2 ∧ w.grownBy w' (some g)
set_option maxHeartbeats 4000000 in
set_option maxRecDepth 100000 in
theorem take_any (g N : Nat) (s s1 : St) (w : World) (hr : RdS w g s) (hN : numS 1048576 s = ((N : Int), s1)) (hN2 : N ≤ 1048576) : Calls Try.prog 35 #[.pointer (some ⟨g, 0, none⟩)] w (TakesL w g N s1) := by
  unfold TakesL
  obtain ⟨i0, hi0, hz0, hz1, hz2⟩ := info_parts info_pf
  have hglt := hr.lt
  have H1 := hide (num_S g s 1048576 w hr)
  rw [hN] at H1
  simp only [] at H1
  clear hN hr
  go_enter Try.func35, Try.ntmps35
  go_wp2_with (first
    | (go_at_call 54
       refine H1.out.mono ?_
       rintro e w1 ⟨rfl, hr1, hg1⟩))
  go_loopw [3, 6] (fun v u wx => ∃ (i : Nat) (A : Option Addr) (c : Nat), i ≤ N ∧ v = .slice A i c ∧ u = .int .i64 (i : Int) ∧ NewPf wx w.heap.size A i c (listS stepS i s1).1 ∧ RdS wx g (listS stepS i s1).2 ∧ w.grownBy wx (some g)) (fun _ u => fun _ => N - (RowKit.intOf u).toNat)
  case atStart => exact ⟨0, none, 0, by omega, rfl, rfl, NewPf.nil_ _ _, hr1, hg1⟩
  case round =>
    obtain ⟨i, A, c, hi, rfl, rfl, hNw, hri, hg⟩ := hrel
    clear hr1 hg1 H1
    have hsz := hg.size
    by_cases hlt : i < N
    · have HF := hide (takeStep_any g (listS stepS i s1).2 wr hri)
      unfold TakesP at HF
      have Hst := hide (show listS stepS (i + 1) s1 = ((listS stepS i s1).1 ++ [(stepS (listS stepS i s1).2).1], (stepS (listS stepS i s1).2).2) from rfl)
      have hown := hNw.2.2.1
      have hlo := fun k hk => (hown.lt k hk).1
      have hlt' := hlt
      generalize (listS stepS i s1).1 = l at *
      generalize hss : (listS stepS i s1).2 = ss at *
      generalize (stepS ss).2 = st at *
      generalize (stepS ss).1 = q at *
      obtain ⟨k, nm, vr, d, a, b⟩ := q
      simp only [] at HF
      obtain ⟨bs, er⟩ := st
      clear hss hri hNw
      have HE := hide (fun (wx : World) (hx : RdS wx g (bs, er)) => err_S g (bs, er) wx hx)
      simp only [] at HE
      by_cases hz : er = 0
      · have hz1' : (er != 0) = false := by rw [hz]; rfl
        clear hz
        go_wp2_with (first
          | (go_at_call 55
             refine HF.out.mono ?_
             rintro e w2 ⟨rfl, hr2, hg2⟩
             have hgw2 := only_thenP hg hg2 (fun j hj => .inr hj)
             have hown2 := own_apart hown hg2 (fun k hk e => by injection e with e; have := hlo k hk; omega)
             have hsz2 := hgw2.size)
          | (at_builtin
             refine wpList_append_any _ rfl (.tmp 8) (.tmp 11) _ rfl w.heap.size 40 i0 _ 6 64 Try.underlying22 hi0 hz0 hz1 hz2 rfl (by omega) _ i (pfs l) rfl
               (hown2.alloc _) _ _ 1 _ _ rfl (reads_pf w2 (⟨k, nm, vr, d, a, b⟩ : Sp) _ _ rfl) (pfs_one _) (by simp only [maxLen]; omega) (by omega) (by simp; omega) ?_
             intro v3 w3 hown3 hg3 hat3
             have hgA := alloc_onlyP w2 (.cells #[.int .i64 ((⟨k, nm, vr, d, a, b⟩ : Sp)).kind, .string ((⟨k, nm, vr, d, a, b⟩ : Sp)).name, .int .i64 ((⟨k, nm, vr, d, a, b⟩ : Sp)).ver, .string ((⟨k, nm, vr, d, a, b⟩ : Sp)).dest, .int .i64 ((⟨k, nm, vr, d, a, b⟩ : Sp)).a, .int .i64 ((⟨k, nm, vr, d, a, b⟩ : Sp)).b] 40) (some g)
             have hgwA := only_thenP hgw2 hgA (fun j hj => .inr hj)
             have hownA := hown2.alloc (.cells #[.int .i64 ((⟨k, nm, vr, d, a, b⟩ : Sp)).kind, .string ((⟨k, nm, vr, d, a, b⟩ : Sp)).name, .int .i64 ((⟨k, nm, vr, d, a, b⟩ : Sp)).ver, .string ((⟨k, nm, vr, d, a, b⟩ : Sp)).dest, .int .i64 ((⟨k, nm, vr, d, a, b⟩ : Sp)).a, .int .i64 ((⟨k, nm, vr, d, a, b⟩ : Sp)).b] 40)
             have hgw3 := only_thenP hgwA hg3 (fun j hj => .inl ((hownA.lt j hj).1))
             have hr3 : RdS w3 g (bs, er) := (hr2.alloc _).grown hg3 (fun k hk => by have := (hownA.lt k hk).1; omega)
             rw [← pfs_append] at hown3
             obtain ⟨A9, c9, rfl, hN9⟩ := newPf_of_own hown3)
          | (go_at_call 56
             refine (HE.out _ hr3).mono ?_
             rintro e w4 ⟨rfl, rfl⟩))
        go_roundw
        case rel => exact ⟨i + 1, A9, c9, by omega, rfl, by go_num, by rw [Hst.out]; exact hN9, by rw [Hst.out]; exact hr3, hgw3⟩
        case measure => simp [RowKit.intOf]; omega
      · have hz1' : (er != 0) = true := bne_iff_ne.2 hz
        have Hend : Hid ((listS stepS (i + 1) s1).2.2 ≠ 0) := hide (by rw [Hst.out]; exact hz)
        clear hz
        go_wp2_with (first
          | (go_at_call 55
             refine HF.out.mono ?_
             rintro e w2 ⟨rfl, hr2, hg2⟩
             have hgw2 := only_thenP hg hg2 (fun j hj => .inr hj)
             have hown2 := own_apart hown hg2 (fun k hk e => by injection e with e; have := hlo k hk; omega)
             have hsz2 := hgw2.size)
          | (at_builtin
             refine wpList_append_any _ rfl (.tmp 8) (.tmp 11) _ rfl w.heap.size 40 i0 _ 6 64 Try.underlying22 hi0 hz0 hz1 hz2 rfl (by omega) _ i (pfs l) rfl
               (hown2.alloc _) _ _ 1 _ _ rfl (reads_pf w2 (⟨k, nm, vr, d, a, b⟩ : Sp) _ _ rfl) (pfs_one _) (by simp only [maxLen]; omega) (by omega) (by simp; omega) ?_
             intro v3 w3 hown3 hg3 hat3
             have hgA := alloc_onlyP w2 (.cells #[.int .i64 ((⟨k, nm, vr, d, a, b⟩ : Sp)).kind, .string ((⟨k, nm, vr, d, a, b⟩ : Sp)).name, .int .i64 ((⟨k, nm, vr, d, a, b⟩ : Sp)).ver, .string ((⟨k, nm, vr, d, a, b⟩ : Sp)).dest, .int .i64 ((⟨k, nm, vr, d, a, b⟩ : Sp)).a, .int .i64 ((⟨k, nm, vr, d, a, b⟩ : Sp)).b] 40) (some g)
             have hgwA := only_thenP hgw2 hgA (fun j hj => .inr hj)
             have hownA := hown2.alloc (.cells #[.int .i64 ((⟨k, nm, vr, d, a, b⟩ : Sp)).kind, .string ((⟨k, nm, vr, d, a, b⟩ : Sp)).name, .int .i64 ((⟨k, nm, vr, d, a, b⟩ : Sp)).ver, .string ((⟨k, nm, vr, d, a, b⟩ : Sp)).dest, .int .i64 ((⟨k, nm, vr, d, a, b⟩ : Sp)).a, .int .i64 ((⟨k, nm, vr, d, a, b⟩ : Sp)).b] 40)
             have hgw3 := only_thenP hgwA hg3 (fun j hj => .inl ((hownA.lt j hj).1))
             have hr3 : RdS w3 g (bs, er) := (hr2.alloc _).grown hg3 (fun k hk => by have := (hownA.lt k hk).1; omega)
             rw [← pfs_append] at hown3
             obtain ⟨A9, c9, rfl, hN9⟩ := newPf_of_own hown3)
          | (go_at_call 56
             refine (HE.out _ hr3).mono ?_
             rintro e w4 ⟨rfl, rfl⟩))
        go_ret
        exact ⟨A9, c9, i + 1, rfl, by omega, .inr Hend.out, by rw [Hst.out]; exact hN9, by rw [Hst.out]; exact hr3, hgw3⟩
    · have hi2 : i = N := by omega
      subst hi2
      go_wp2
      go_ret
      exact ⟨A, c, i, rfl, Nat.le_refl _, .inl rfl, hNw, hri, hg⟩
set_option maxHeartbeats 4000000 in
set_option maxRecDepth 100000 in
theorem specReadPf : SpecReadPf := by
  intro b A n c w hr hc hn
  have hlen : b.length = n := by have := hr.1; rw [bcs_length] at this; omega
  have HO := hide (open_S A n c b w (by omega) hr)
  have h1 := numS_le 1048576 (by omega) (b, 0)
  have em : pfS (b, 0) = listS stepS (numS 1048576 (b, 0)).1.toNat (numS 1048576 (b, 0)).2 := rfl
  obtain ⟨N, hN⟩ : ∃ N : Nat, (numS 1048576 (b, 0)).1 = (N : Int) := ⟨(numS 1048576 (b, 0)).1.toNat, by omega⟩
  rw [hN] at em h1
  rw [Int.toNat_natCast] at em
  have hN2 : N ≤ 1048576 := by omega
  have HT := hide (fun (g : Nat) (wx : World) (hx : RdS wx g (b, 0)) => take_any g N (b, 0) (numS 1048576 (b, 0)).2 wx hx (Prod.ext hN rfl) hN2)
  unfold TakesL at HT
  generalize (numS 1048576 (b, 0)).2 = s1 at *
  have Hstop := hide (fun (i : Nat) => @read_stop b N i s1 em)
  have Hfine : Hid (∀ i, ∀ x ∈ (listS stepS i s1).1, FineS x) := hide (fun i => listS_all stepS_fine i s1)
  clear em hN h1 hr
  generalize errPf b = eb at *
  generalize readPf b = rb at *
  go_enter Try.func18, Try.ntmps18
  go_upto_region 3 with (first
    | (go_at_call 34
       refine HO.out.mono ?_
       rintro e w1 ⟨g, rfl, hg0, hr1, hb1⟩)
    | (go_at_call 35
       refine (HT.out g w1 hr1).mono ?_
       rintro e w2 ⟨A2, c2, i, rfl, hi, hstop, hN2w, hr2, hg2⟩))
  have hb2 : Below w.heap.size w w2 := hb1.grown hg2 hb1.size (fun k hk => by injection hk with hk; omega)
  have Hs := Hstop.out i hi hstop
  have hfi := Hfine.out i
  clear hr1 hb1 hg2 HO HT Hstop Hfine hstop
  have HC := hide (fun (wx : World) (hx : RdS wx g (listS stepS i s1).2) => close_S g (listS stepS i s1).2 wx hx)
  generalize (listS stepS i s1).2 = st at *
  generalize (listS stepS i s1).1 = L at *
  obtain ⟨e1, e2⟩ := Hs
  have Hn := hide hN2w.1
  have hPf := hN2w.2.2.2
  have hcc := hN2w.2.1
  have HK := hide (fun (k : Nat) => checkPf_any L A2 i c2 (w2.drewN k) hPf (by omega) (fun s hs => by have := hfi s hs; exact ⟨by have := this.1; omega, by have := this.2; omega⟩))
  generalize Vlq.closedM st.1 st.2 = cl at *
  generalize okPf L = ok at *
  have E1 := hide e1
  have E2 := hide e2
  clear e1 e2 hfi hN2w
  by_cases hz : cl = 0
  · subst hz
    cases ok with
    | true =>
      have g1 : eb = 0 := by rw [E1.out]; simp
      have g2 : rb = L := by rw [E2.out, if_pos g1]
      subst g1 g2
      go_wp2_with (first
        | (go_at_call 36
           refine (HC.out w2 hr2).mono ?_
           rintro e w3 ⟨rfl, k, rfl⟩)
        | (go_at_call 8
           refine (HK.out k).mono ?_
           rintro e w4 ⟨rfl, hb4⟩))
      go_ret2
      have hb4' : Below w2.heap.size w2 w4 := (below_drewN (Below.refl _ _) k).trans hb4
      exact ⟨A2, i, c2, rfl, hcc, hPf.on hb4', hb2.trans (hb4'.mono hb2.size)⟩
    | false =>
      have g1 : eb = 3 := by rw [E1.out]; simp
      have g2 : rb = [] := by rw [E2.out, if_neg (by omega)]
      subst g1 g2
      go_wp2_with (first
        | (go_at_call 36
           refine (HC.out w2 hr2).mono ?_
           rintro e w3 ⟨rfl, k, rfl⟩)
        | (go_at_call 8
           refine (HK.out k).mono ?_
           rintro e w4 ⟨rfl, hb4⟩))
      go_ret2
      have hb4' : Below w2.heap.size w2 w4 := (below_drewN (Below.refl _ _) k).trans hb4
      exact ⟨none, 0, 0, rfl, Nat.le_refl _, PfIn.nil _ _ _, hb2.trans (hb4'.mono hb2.size)⟩
  · have g1 : eb = cl := by rw [E1.out, if_pos hz]
    have g2 : rb = [] := by rw [E2.out, if_neg (by omega)]
    subst g1 g2
    have hz1 : (eb == 0) = false := beq_eq_false_iff_ne.2 hz
    have hz2 : (eb != 0) = true := bne_iff_ne.2 hz
    clear hz
    go_wp2_with (first
      | (go_at_call 36
         refine (HC.out w2 hr2).mono ?_
         rintro e w3 ⟨rfl, k, rfl⟩))
    go_ret2
    exact ⟨none, 0, 0, rfl, Nat.le_refl _, PfIn.nil _ _ _, below_drewN hb2 k⟩
end Go.Proofs.Ytdggnakjfcmnmaa.Proof
