/-
  Some texts of this claim, one behind the other: WirePutS, WirePutN, WirePutR, WirePut. What each proves, and its condition, stands at its head.
-/
import Derived.Test.YtbagekkcakfhgaaZ17
import Derived.Test.YtbagekkcakfhgaaZ20
import Derived.Test.YtbagekkcakfhgaaZ6
import Derived.Test.YtbagekkcakfhgaaZ11
import Derived.Test.YtbagekkcakfhgaaZ13
import Derived.Test.YtbagekkcakfhgaaZ19
import Derived.Test.YtbagekkcakfhgaaZ23
import Derived.Shelf.Abstract
import Derived.Test.YtbagekkcakfhgaaZ16
/-
  The contracts of the program's putSpan, and of putList at spans: they answer a new slice of the document's bytes. Condition: spans that may be, at most 100.
-/
namespace Go.Proofs.Ytbagekkcakfhgaa.Wire
open Go Go.RowKit Go.Lib Go.Proofs.Ytbagekkcakfhgaa.Span Go.Proofs.Ytbagekkcakfhgaa.Need Go.Proofs.Ytbagekkcakfhgaa.Mani Go.Proofs.Ytbagekkcakfhgaa.Grow
open Go.Proofs.Ytbagekkcakfhgaa.Vlq (enc held put_new text_new encs)
set_option linter.unusedVariables false
set_option maxHeartbeats 1600000 in
set_option maxRecDepth 100000 in
theorem putSpan_any (s : S) (w : World) (hs : SpanOk s) : Calls Try.prog 82 #[.agg #[.int .i64 s.1, .int .i64 s.2]] w (MakesB w (spanB s)) := by
  obtain ⟨a, b⟩ := s
  obtain ⟨h1, h2, h3⟩ := hs
  simp only at h1 h2 h3 ⊢
  unfold MakesB
  have HP := hide (fun wx A c (h : Reads wx wx.heap.size 1 A 2 (ics [a, b - a])) => put_new none 0 0 [] A 2 c [a, b - a] wx _ (encs_two a (b - a)) (by omega) (by omega) Reads.none_ h)
  have Hr := hide (fun wx T g hg => reads_two wx a (b - a) T g hg)
  have e : spanB (a, b) = encN a ++ encN (b - a) := rfl
  rw [e]
  generalize encN a ++ encN (b - a) = L at *
  have hb2 : Below w.heap.size w ((w.alloc (.cells #[.int .i64 a, .int .i64 b] 88)).alloc (.cells #[.int .i64 a, .int .i64 (b - a)] 3)) := ((Below.refl _ _).alloc (Nat.le_refl _) _).alloc (by simp) _
  clear e
  go_enter Try.func82, Try.ntmps82
  go_wp2_with (first
    | (go_at_call 72
       refine (HP.out _ _ _ ((Hr.out _ _ _ ?_).more ?_)).mono ?_
       . simp
       . simp
       rintro e w1 ⟨A1, n1, c1, rfl, hn1, hb1⟩))
  go_ret
  exact ⟨_, _, _, rfl, hn1.less (by simp; omega), hb2.trans (hb1.mono (by simp; omega))⟩
set_option maxHeartbeats 1600000 in
set_option maxRecDepth 100000 in
theorem putListS_any (l : List S) (A : Option Addr) (n c : Nat) (w : World) (h : SpOn w A n l) (hn : n ≤ 100) (hs : ∀ x ∈ l, SpanOk x) :
    Calls Try.prog 81 #[.slice A n c, .func (.func 82) #[] #[]] w (MakesB w (listB spanB l)) := by
  unfold MakesB
  obtain ⟨i0, hi0, hz0, hz1, hz2⟩ := info_parts info_u8
  have hlen : l.length = n := by first | exact h.len | exact h.len.symm
  have Hlen := hide hlen
  have hfl : ∀ k, (flat spanB (l.take k)).length ≤ 100 * 10 := fun k => by
    have h1 := flat_len spanB (l.take k) 10 (fun x hx => spanB_len x (hs x (List.mem_of_mem_take hx)))
    have h2 : (l.take k).length ≤ 100 := by rw [List.length_take]; omega
    exact Nat.le_trans h1 (Nat.mul_le_mul_right _ h2)
  have hsx := encN_six (n : Int)
  have HP := hide (fun wx Ax cx (hx : Reads wx wx.heap.size 1 Ax 1 (ics [(n : Int)])) => put_new none 0 0 [] Ax 1 cx [(n : Int)] wx _ (encs_one (n : Int)) (by omega) (by omega) Reads.none_ hx)
  have hb0 : Below w.heap.size w (w.alloc (.cells #[.int .i64 (n : Int)] 3)) := (Below.refl _ _).alloc (Nat.le_refl _) _
  have el : listB spanB l = encN (n : Int) ++ flat spanB l := by unfold listB; rw [hlen]
  rw [el]
  generalize hX : encN (n : Int) = X at *
  have HX := hide hX
  clear hlen el hX
  go_enter Try.func81, Try.ntmps81
  go_wp2_with (first
    | (go_at_call 72
       refine (HP.out _ _ _ ((Reads.new1 w _ _).more ?_)).mono ?_
       . simp
       rintro e w1 ⟨A1, n1, c1, rfl, hn1, hb1⟩))
  have hbw := hb0.trans (hb1.mono hb0.size)
  have hown1 := (hn1.less hb0.size).2.2.1
  have hn1l := hn1.1
  subst hn1l
  clear hn1 hb1
  go_loopw [5, 14] (fun s t wx => ∃ i : Nat, i ≤ n ∧ t = .int .i64 (i : Int) ∧ wx.ownsRow w.heap.size 5 1 s (X ++ flat spanB (l.take i)).length (bcs (X ++ flat spanB (l.take i))) ∧ Below w.heap.size w wx) (fun _ t _ => n - (RowKit.intOf t).toNat)
  case atStart => exact ⟨0, by omega, rfl, by simpa [flat] using hown1, hbw⟩
  case round =>
    obtain ⟨i, hi, rfl, hown, hb⟩ := hrel
    have hbs := hb.size
    clear hown1 hbw
    by_cases hlt : i < n
    · obtain ⟨ad, q, rfl, hbl, hx, c1, c2⟩ := SpIn.at_ (SpIn.below h hb) hlt
      have hq := hs q (List.mem_of_getElem? hx)
      have HF := hide (fun wx (hbx : Below wr.heap.size wr wx) => putSpan_any q wx hq)
      unfold MakesB at HF
      have Hft := hide (flat_take spanB l i q hx)
      have hf1 := hfl i
      have hf2 := spanB_len q hq
      have hl1 : (X ++ flat spanB (l.take i)).length ≤ 20000000 := by rw [List.length_append]; omega
      obtain ⟨z1, z2⟩ := q
      simp only at c1 c2
      clear hx hs h hfl
      go_wp2_with (first
        | (go_at_call 82
           refine (HF.out _ (alloc_b _)).mono ?_
           rintro e w6 ⟨A6, n6, c6, rfl, hn6, hb6⟩
           have hb56 : Below wr.heap.size wr w6 := (alloc_b _).trans (hb6.mono (by simp))
           have hbw6 : Below w.heap.size w w6 := hb.trans (hb56.mono hbs)
           have hown6 := own_below hown hb56
           have Hl6 := hide hn6.1)
        | (at_builtin
           refine wpList_append_any _ rfl (.tmp 18) (.tmp 21) _ rfl w.heap.size 5 i0 _ 1 1 Try.underlying31 hi0 hz0 hz1 hz2 rfl (by omega) _ _ _ rfl
             hown6 w6.heap.size A6 n6 c6 _ rfl hn6.2.2.2 (bcs_one _) (by have := Hl6.out; simp only [maxLen]; omega) (by have := Hl6.out; omega) hbw6.size ?_
           intro v7 w7 hown7 hg7 hat7
           rw [← bcs_append, Hl6.out, ← List.length_append, List.append_assoc, ← Hft.out] at hown7
           have hb7 : Below w.heap.size w w7 := hbw6.grown hg7 hbw6.size (fun k hk => (hown6.lt k hk).1)))
      go_roundw
      case rel => exact ⟨i + 1, by omega, by go_num, hown7, hb7⟩
      case measure => simp [RowKit.intOf]; omega
    · have hi2 : i = n := by omega
      subst hi2
      rw [List.take_of_length_le (by rw [Hlen.out]; exact Nat.le_refl _)] at hown
      obtain ⟨A9, c9, rfl, hN9⟩ := new_of_own hown
      go_wp2
      go_ret
      exact ⟨_, _, _, rfl, hN9, hb⟩
end Go.Proofs.Ytbagekkcakfhgaa.Wire
/-
  The contracts of the program's putNeed, and of putList at needs: they answer a new slice of the document's bytes. Condition: needs that may be, at most 100.
-/
namespace Go.Proofs.Ytbagekkcakfhgaa.Wire
open Go Go.RowKit Go.Lib Go.Proofs.Ytbagekkcakfhgaa.Span Go.Proofs.Ytbagekkcakfhgaa.Need Go.Proofs.Ytbagekkcakfhgaa.Mani Go.Proofs.Ytbagekkcakfhgaa.Grow
open Go.Proofs.Ytbagekkcakfhgaa.Vlq (enc held put_new text_new encs)
set_option linter.unusedVariables false
set_option maxHeartbeats 4000000 in
set_option maxRecDepth 100000 in
theorem putNeed_any (nm : ByteArray) (A : Option Addr) (n c : Nat) (l : List S) (w : World) (h : SpOn w A n l) (hnm : nm.size ≤ 24) (hn : n ≤ 6) (hs : ∀ x ∈ l, SpanOk x) :
    Calls Try.prog 74 #[.agg #[.string nm, .slice A n c]] w (MakesB w (textB nm ++ listB spanB l)) := by
  unfold MakesB
  obtain ⟨i0, hi0, hz0, hz1, hz2⟩ := info_parts info_u8
  have HL := hide (fun (wx : World) (hbx : Below w.heap.size w wx) => putListS_any l A n c wx (h.on hbx) (by omega) hs)
  unfold MakesB at HL
  have HT := hide (fun (wx : World) => text_B nm wx hnm)
  unfold MakesB at HT
  have hl2 := listB_len spanB l 10 8 (fun x hx => spanB_len x (hs x hx)) (by first | (have := h.len; omega) | (rw [h.len]; omega)) (by omega)
  have hl1 : (textB nm).length ≤ 30 := by have := textB_len nm hnm; omega
  generalize listB spanB l = L2 at *
  generalize textB nm = L1 at *
  go_enter Try.func74, Try.ntmps74
  go_upto_region 1 with fail
  obtain ⟨wr, hwr⟩ : ∃ wr, wr = w.alloc (.cells #[.string nm, .slice A n c] 82) := ⟨_, rfl⟩
  have hB0 : Blk wr w.heap.size 82 #[.string nm, .slice A n c] := by rw [hwr]; exact Blk.new w _ _
  have hbw : Below w.heap.size w wr := by rw [hwr]; exact alloc_b _
  have hbs := hbw.size
  try rw [← hwr]
  clear hwr
  have q1 := cell_reg_ ((hB0.cell 0).trans rfl) hB0.lt
  have q2 := cell_reg_ ((hB0.cell 1).trans rfl) hB0.lt
  refine wp_region_grow_w [(5, isB w.heap.size L1), (8, isB w.heap.size L2)] [5, 8] 6 (catsB w.heap.size L1 L2) _
    (by kernel_rfl) (by kernel_rfl) rfl (by kernel_rfl) (by kernel_rfl) (by kernel_rfl) rfl rfl (by kernel_rfl) (by kernel_rfl) ⟨isB_stable _ _, isB_stable _ _, trivial⟩ ?_
  repeat (first
    | (refine lexK_skip (by decide) rfl ?_; simp only [Act.put, List.setIfInBounds_toArray, List.set_cons_zero, List.set_cons_succ])
    | (refine lexK_quiet (by decide) rfl rfl rfl (fun K hK => ?_); unfold Reg; go_big_quiet_op; refine hK _ ?_; clear hK K)
    | (refine lexK_rel (by decide) rfl rfl (fun w' hb9 hK => ?_) (fun v w' hb9 hv => ?_)
       · unfold grows
         go_simp
         go_at_call 46
         refine (HT.out w').mono ?_
         rintro e w5 ⟨A5, n5, c5, rfl, hN5, hb5⟩
         exact ⟨_, rfl, hb5, A5, n5, c5, rfl, hN5.less (by have := hb9.size; omega)⟩
       obtain ⟨A6, n6, c6, rfl, hI6⟩ := hv
       simp only [Act.put, List.setIfInBounds_toArray, List.set_cons_zero, List.set_cons_succ])
    | (refine lexK_rel (by decide) rfl rfl (fun w' hb9 hK => ?_) (fun v w' hb9 hv => ?_)
       · unfold grows
         go_simp
         go_at_call 81
         refine (HL.out w' (hbw.trans (hb9.mono hbs))).mono ?_
         rintro e w5 ⟨A5, n5, c5, rfl, hN5, hb5⟩
         exact ⟨_, rfl, hb5, A5, n5, c5, rfl, hN5.less (by have := hb9.size; omega)⟩
       obtain ⟨A8, n8, c8, rfl, hI8⟩ := hv
       simp only [Act.put, List.setIfInBounds_toArray, List.set_cons_zero, List.set_cons_succ])
    | (refine lexK_wr rfl rfl (fun w' hb9 hK => ?_) (fun v w' w'' hb9 hv => ?_)
       · obtain ⟨A4, n4, c4, e4, hN4⟩ := hK.at_ 5 rfl (slice_def _ _ _)
         have e4' : Value.slice A6 n6 c6 = .slice A4 n4 c4 := e4
         injection e4' with e5 e6 e7
         subst e5 e6 e7
         obtain ⟨A3, n3, c3, e3, hN3⟩ := hK.at_ 8 rfl (slice_def _ _ _)
         have e3' : Value.slice A8 n8 c8 = .slice A3 n3 c3 := e3
         injection e3' with e5 e6 e7
         subst e5 e6 e7
         have hsz9 : w.heap.size ≤ w'.heap.size := Nat.le_trans hbs hb9.size
         refine grows_append (.tmp 5) (.tmp 8) _ rfl w.heap.size 5 i0 _ 1 1 Try.underlying31 hi0 hz0 hz1 hz2 rfl (by omega) _ n6 (bcs L1) rfl hN4.2.2.1 _ _ n8 _ _ rfl hN3.2.2.2 (bcs_one _) (by have := hN4.1; have := hN3.1; unfold maxLen; omega) (by have := hN4.1; have := hN3.1; omega) hsz9 ?_
         intro v' w5 hown hg _
         exact cats_of hN4 hN3.1 hsz9 hown hg
       obtain ⟨Av, nv, cv, rfl, _, _⟩ := hv
       simp only [Act.put, List.setIfInBounds_toArray, List.set_cons_zero, List.set_cons_succ])
    | (refine lexK_late (by decide) rfl rfl (fun K hK => ?_); go_big_quiet_op; refine hK _ ?_; clear hK K))
  refine lexK_nil (fun w9 w1 v hC9 hall hS hd => ?_)
  have hb9 := reg_iff.1 hC9
  have hv9 := (hd 9 rfl).resolve_right (slice_def _ _ _)
  have hv9' : Value.slice Av nv cv = v := hv9
  subst hv9'
  obtain ⟨A2, n2, c2, e2, hN2, hb2⟩ := hS
  injection e2 with e5 e6 e7
  subst e5 e6 e7
  have hbb : Below w.heap.size w w9 := (hbw.trans (hb9.mono hbs)).trans hb2
  clear hall hd hv9 hC9 q1 q2 hb2
  go_wp2
  go_ret
  exact ⟨_, _, _, rfl, hN2, hbb⟩
set_option maxHeartbeats 1600000 in
set_option maxRecDepth 100000 in
theorem putListN_any (l : List Nd) (A : Option Addr) (n c : Nat) (w : World) (h : NdOn w A n l) (hn : n ≤ 100) (hs : ∀ x ∈ l, NeedOk x) :
    Calls Try.prog 73 #[.slice A n c, .func (.func 74) #[] #[]] w (MakesB w (listB needB l)) := by
  unfold MakesB
  obtain ⟨i0, hi0, hz0, hz1, hz2⟩ := info_parts info_u8
  have hlen : l.length = n := by first | exact h.len | exact h.len.symm
  have Hlen := hide hlen
  have hfl : ∀ k, (flat needB (l.take k)).length ≤ 100 * 86 := fun k => by
    have h1 := flat_len needB (l.take k) 86 (fun x hx => needB_len x (hs x (List.mem_of_mem_take hx)))
    have h2 : (l.take k).length ≤ 100 := by rw [List.length_take]; omega
    exact Nat.le_trans h1 (Nat.mul_le_mul_right _ h2)
  have hsx := encN_six (n : Int)
  have HP := hide (fun wx Ax cx (hx : Reads wx wx.heap.size 1 Ax 1 (ics [(n : Int)])) => put_new none 0 0 [] Ax 1 cx [(n : Int)] wx _ (encs_one (n : Int)) (by omega) (by omega) Reads.none_ hx)
  have hb0 : Below w.heap.size w (w.alloc (.cells #[.int .i64 (n : Int)] 3)) := (Below.refl _ _).alloc (Nat.le_refl _) _
  have el : listB needB l = encN (n : Int) ++ flat needB l := by unfold listB; rw [hlen]
  rw [el]
  generalize hX : encN (n : Int) = X at *
  have HX := hide hX
  clear hlen el hX
  go_enter Try.func73, Try.ntmps73
  go_wp2_with (first
    | (go_at_call 72
       refine (HP.out _ _ _ ((Reads.new1 w _ _).more ?_)).mono ?_
       . simp
       rintro e w1 ⟨A1, n1, c1, rfl, hn1, hb1⟩))
  have hbw := hb0.trans (hb1.mono hb0.size)
  have hown1 := (hn1.less hb0.size).2.2.1
  have hn1l := hn1.1
  subst hn1l
  clear hn1 hb1
  go_loopw [5, 14] (fun s t wx => ∃ i : Nat, i ≤ n ∧ t = .int .i64 (i : Int) ∧ wx.ownsRow w.heap.size 5 1 s (X ++ flat needB (l.take i)).length (bcs (X ++ flat needB (l.take i))) ∧ Below w.heap.size w wx) (fun _ t _ => n - (RowKit.intOf t).toNat)
  case atStart => exact ⟨0, by omega, rfl, by simpa [flat] using hown1, hbw⟩
  case round =>
    obtain ⟨i, hi, rfl, hown, hb⟩ := hrel
    have hbs := hb.size
    clear hown1 hbw
    by_cases hlt : i < n
    · obtain ⟨ad, q, A2, n2, k2, rfl, hbl, hx, hs2, c1, c2⟩ := NdIn.at_ (NdIn.below h hb) hlt
      have hq := hs q (List.mem_of_getElem? hx)
      have hq2 := hq
      obtain ⟨hq3, hq4, hq5⟩ := hq2
      have HF := hide (fun wx (hbx : Below wr.heap.size wr wx) => putNeed_any q.1 A2 n2 k2 q.2 wx (SpOn.on (hs2.more hbs) hbx) hq3 (by have := hs2.1; omega) hq5)
      unfold MakesB at HF
      have Hft := hide (flat_take needB l i q hx)
      have hf1 := hfl i
      have hf2 := needB_len q hq
      have ef : needB q = textB q.1 ++ listB spanB q.2 := rfl
      rw [ef] at hf2 Hft
      have hl1 : (X ++ flat needB (l.take i)).length ≤ 20000000 := by rw [List.length_append]; omega
      obtain ⟨nm, s⟩ := q
      simp only [] at c1 c2
      clear hx hs h hfl
      go_wp2_with (first
        | (go_at_call 74
           refine (HF.out _ (alloc_b _)).mono ?_
           rintro e w6 ⟨A6, n6, c6, rfl, hn6, hb6⟩
           have hb56 : Below wr.heap.size wr w6 := (alloc_b _).trans (hb6.mono (by simp))
           have hbw6 : Below w.heap.size w w6 := hb.trans (hb56.mono hbs)
           have hown6 := own_below hown hb56
           have Hl6 := hide hn6.1)
        | (at_builtin
           refine wpList_append_any _ rfl (.tmp 18) (.tmp 21) _ rfl w.heap.size 5 i0 _ 1 1 Try.underlying31 hi0 hz0 hz1 hz2 rfl (by omega) _ _ _ rfl
             hown6 w6.heap.size A6 n6 c6 _ rfl hn6.2.2.2 (bcs_one _) (by have := Hl6.out; simp only [maxLen]; omega) (by have := Hl6.out; omega) hbw6.size ?_
           intro v7 w7 hown7 hg7 hat7
           rw [← bcs_append, Hl6.out, ← List.length_append, List.append_assoc, ← Hft.out] at hown7
           have hb7 : Below w.heap.size w w7 := hbw6.grown hg7 hbw6.size (fun k hk => (hown6.lt k hk).1)))
      go_roundw
      case rel => exact ⟨i + 1, by omega, by go_num, hown7, hb7⟩
      case measure => simp [RowKit.intOf]; omega
    · have hi2 : i = n := by omega
      subst hi2
      rw [List.take_of_length_le (by rw [Hlen.out]; exact Nat.le_refl _)] at hown
      obtain ⟨A9, c9, rfl, hN9⟩ := new_of_own hown
      go_wp2
      go_ret
      exact ⟨_, _, _, rfl, hN9, hb⟩
end Go.Proofs.Ytbagekkcakfhgaa.Wire
/-
  The contracts of the program's putRelease, and of putList at releases: they answer a new slice of the document's bytes. Condition: releases that may be, at most 100.
-/
namespace Go.Proofs.Ytbagekkcakfhgaa.Wire
open Go Go.RowKit Go.Lib Go.Proofs.Ytbagekkcakfhgaa.Span Go.Proofs.Ytbagekkcakfhgaa.Need Go.Proofs.Ytbagekkcakfhgaa.Mani Go.Proofs.Ytbagekkcakfhgaa.Grow
open Go.Proofs.Ytbagekkcakfhgaa.Vlq (enc held put_new text_new encs)
set_option linter.unusedVariables false
set_option maxHeartbeats 4000000 in
set_option maxRecDepth 100000 in
theorem putRelease_any (z : Int) (A : Option Addr) (n c : Nat) (l : List Nd) (w : World) (h : NdOn w A n l) (hz : 0 ≤ z ∧ z ≤ 1000000000) (hn : n ≤ 6) (hs : ∀ x ∈ l, NeedOk x) :
    Calls Try.prog 48 #[.agg #[.int .i64 z, .slice A n c]] w (MakesB w (encN z ++ listB needB l)) := by
  unfold MakesB
  obtain ⟨i0, hi0, hz0, hz1, hz2⟩ := info_parts info_u8
  have HL := hide (fun (wx : World) (hbx : Below w.heap.size w wx) => putListN_any l A n c wx (h.on hbx) (by omega) hs)
  unfold MakesB at HL
  have HT := hide (fun (Ax : Option Addr) (kx cx : Nat) (wx : World) (hx : Reads wx wx.heap.size 1 Ax kx (ics [z])) => put_B z Ax kx cx wx hx)
  unfold MakesB at HT
  have hl2 := listB_len needB l 86 8 (fun x hx => needB_len x (hs x hx)) (by first | (have := h.len; omega) | (rw [h.len]; omega)) (by omega)
  have hl1 : (encN z).length ≤ 30 := by have := encN_five z hz.2; omega
  generalize listB needB l = L2 at *
  generalize encN z = L1 at *
  go_enter Try.func48, Try.ntmps48
  go_upto_region 1 with fail
  obtain ⟨wr, hwr⟩ : ∃ wr, wr = w.alloc (.cells #[.int .i64 z, .slice A n c] 62) := ⟨_, rfl⟩
  have hB0 : Blk wr w.heap.size 62 #[.int .i64 z, .slice A n c] := by rw [hwr]; exact Blk.new w _ _
  have hbw : Below w.heap.size w wr := by rw [hwr]; exact alloc_b _
  have hbs := hbw.size
  try rw [← hwr]
  clear hwr
  have q1 := cell_reg_ ((hB0.cell 0).trans rfl) hB0.lt
  have q2 := cell_reg_ ((hB0.cell 1).trans rfl) hB0.lt
  refine wp_region_grow_w [(5, isI [z]), (6, isB w.heap.size L1), (9, isB w.heap.size L2)] [5, 6, 9] 7 (catsB w.heap.size L1 L2) _
    (by kernel_rfl) (by kernel_rfl) rfl (by kernel_rfl) (by kernel_rfl) (by kernel_rfl) rfl rfl (by kernel_rfl) (by kernel_rfl) ⟨isI_stable _, isB_stable _ _, isB_stable _ _, trivial⟩ ?_
  repeat (first
    | (refine lexK_skip (by decide) rfl ?_; simp only [Act.put, List.setIfInBounds_toArray, List.set_cons_zero, List.set_cons_succ])
    | (refine lexK_quiet (by decide) rfl rfl rfl (fun K hK => ?_); unfold Reg; go_big_quiet_op; refine hK _ ?_; clear hK K)
    | (refine lexK_rel (by decide) rfl rfl (fun w' hb9 hK => ?_) (fun v w' hb9 hv => ?_)
       · unfold grows
         go_simp
         exact ⟨alloc_b _, _, _, _, rfl, (Reads.new1 w' _ _).more (by simp)⟩
       obtain ⟨A7, n7, c7, rfl, hI7⟩ := hv
       simp only [Act.put, List.setIfInBounds_toArray, List.set_cons_zero, List.set_cons_succ])
    | (refine lexK_rel (by decide) rfl rfl (fun w' hb9 hK => ?_) (fun v w' hb9 hv => ?_)
       · obtain ⟨A4, n4, c4, e4, hN4⟩ := hK.at_ 5 rfl rfl (slice_def _ _ _)
         have e4' : Value.slice A7 n7 c7 = .slice A4 n4 c4 := e4
         injection e4' with e5 e6 e7
         subst e5 e6 e7
         unfold grows
         go_simp
         go_at_call 72
         refine (HT.out _ _ _ w' hN4).mono ?_
         rintro e w5 ⟨A5, n5, c5, rfl, hN5, hb5⟩
         exact ⟨_, rfl, hb5, A5, n5, c5, rfl, hN5.less (by have := hb9.size; omega)⟩
       obtain ⟨A6, n6, c6, rfl, hI6⟩ := hv
       simp only [Act.put, List.setIfInBounds_toArray, List.set_cons_zero, List.set_cons_succ])
    | (refine lexK_rel (by decide) rfl rfl (fun w' hb9 hK => ?_) (fun v w' hb9 hv => ?_)
       · unfold grows
         go_simp
         go_at_call 73
         refine (HL.out w' (hbw.trans (hb9.mono hbs))).mono ?_
         rintro e w5 ⟨A5, n5, c5, rfl, hN5, hb5⟩
         exact ⟨_, rfl, hb5, A5, n5, c5, rfl, hN5.less (by have := hb9.size; omega)⟩
       obtain ⟨A8, n8, c8, rfl, hI8⟩ := hv
       simp only [Act.put, List.setIfInBounds_toArray, List.set_cons_zero, List.set_cons_succ])
    | (refine lexK_wr rfl rfl (fun w' hb9 hK => ?_) (fun v w' w'' hb9 hv => ?_)
       · obtain ⟨A4, n4, c4, e4, hN4⟩ := hK.at_ 6 rfl (slice_def _ _ _)
         have e4' : Value.slice A6 n6 c6 = .slice A4 n4 c4 := e4
         injection e4' with e5 e6 e7
         subst e5 e6 e7
         obtain ⟨A3, n3, c3, e3, hN3⟩ := hK.at_ 9 rfl (slice_def _ _ _)
         have e3' : Value.slice A8 n8 c8 = .slice A3 n3 c3 := e3
         injection e3' with e5 e6 e7
         subst e5 e6 e7
         have hsz9 : w.heap.size ≤ w'.heap.size := Nat.le_trans hbs hb9.size
         refine grows_append (.tmp 6) (.tmp 9) _ rfl w.heap.size 5 i0 _ 1 1 Try.underlying31 hi0 hz0 hz1 hz2 rfl (by omega) _ n6 (bcs L1) rfl hN4.2.2.1 _ _ n8 _ _ rfl hN3.2.2.2 (bcs_one _) (by have := hN4.1; have := hN3.1; unfold maxLen; omega) (by have := hN4.1; have := hN3.1; omega) hsz9 ?_
         intro v' w5 hown hg _
         exact cats_of hN4 hN3.1 hsz9 hown hg
       obtain ⟨Av, nv, cv, rfl, _, _⟩ := hv
       simp only [Act.put, List.setIfInBounds_toArray, List.set_cons_zero, List.set_cons_succ])
    | (refine lexK_late (by decide) rfl rfl (fun K hK => ?_); go_big_quiet_op; refine hK _ ?_; clear hK K))
  refine lexK_nil (fun w9 w1 v hC9 hall hS hd => ?_)
  have hb9 := reg_iff.1 hC9
  have hv9 := (hd 10 rfl).resolve_right (slice_def _ _ _)
  have hv9' : Value.slice Av nv cv = v := hv9
  subst hv9'
  obtain ⟨A2, n2, c2, e2, hN2, hb2⟩ := hS
  injection e2 with e5 e6 e7
  subst e5 e6 e7
  have hbb : Below w.heap.size w w9 := (hbw.trans (hb9.mono hbs)).trans hb2
  clear hall hd hv9 hC9 q1 q2 hb2
  go_wp2
  go_ret
  exact ⟨_, _, _, rfl, hN2, hbb⟩
set_option maxHeartbeats 1600000 in
set_option maxRecDepth 100000 in
theorem putListR_any (l : List Rl) (A : Option Addr) (n c : Nat) (w : World) (h : RlOn w A n l) (hn : n ≤ 100) (hs : ∀ x ∈ l, RelOk x) :
    Calls Try.prog 47 #[.slice A n c, .func (.func 48) #[] #[]] w (MakesB w (listB relB l)) := by
  unfold MakesB
  obtain ⟨i0, hi0, hz0, hz1, hz2⟩ := info_parts info_u8
  have hlen : l.length = n := by first | exact h.len | exact h.len.symm
  have Hlen := hide hlen
  have hfl : ∀ k, (flat relB (l.take k)).length ≤ 100 * 522 := fun k => by
    have h1 := flat_len relB (l.take k) 522 (fun x hx => relB_len x (hs x (List.mem_of_mem_take hx)))
    have h2 : (l.take k).length ≤ 100 := by rw [List.length_take]; omega
    exact Nat.le_trans h1 (Nat.mul_le_mul_right _ h2)
  have hsx := encN_six (n : Int)
  have HP := hide (fun wx Ax cx (hx : Reads wx wx.heap.size 1 Ax 1 (ics [(n : Int)])) => put_new none 0 0 [] Ax 1 cx [(n : Int)] wx _ (encs_one (n : Int)) (by omega) (by omega) Reads.none_ hx)
  have hb0 : Below w.heap.size w (w.alloc (.cells #[.int .i64 (n : Int)] 3)) := (Below.refl _ _).alloc (Nat.le_refl _) _
  have el : listB relB l = encN (n : Int) ++ flat relB l := by unfold listB; rw [hlen]
  rw [el]
  generalize hX : encN (n : Int) = X at *
  have HX := hide hX
  clear hlen el hX
  go_enter Try.func47, Try.ntmps47
  go_wp2_with (first
    | (go_at_call 72
       refine (HP.out _ _ _ ((Reads.new1 w _ _).more ?_)).mono ?_
       . simp
       rintro e w1 ⟨A1, n1, c1, rfl, hn1, hb1⟩))
  have hbw := hb0.trans (hb1.mono hb0.size)
  have hown1 := (hn1.less hb0.size).2.2.1
  have hn1l := hn1.1
  subst hn1l
  clear hn1 hb1
  go_loopw [5, 14] (fun s t wx => ∃ i : Nat, i ≤ n ∧ t = .int .i64 (i : Int) ∧ wx.ownsRow w.heap.size 5 1 s (X ++ flat relB (l.take i)).length (bcs (X ++ flat relB (l.take i))) ∧ Below w.heap.size w wx) (fun _ t _ => n - (RowKit.intOf t).toNat)
  case atStart => exact ⟨0, by omega, rfl, by simpa [flat] using hown1, hbw⟩
  case round =>
    obtain ⟨i, hi, rfl, hown, hb⟩ := hrel
    have hbs := hb.size
    clear hown1 hbw
    by_cases hlt : i < n
    · obtain ⟨ad, q, A2, n2, k2, rfl, hbl, hx, hs2, c1, c2⟩ := RlIn.at_ (RlIn.below h hb) hlt
      have hq := hs q (List.mem_of_getElem? hx)
      have hq2 := hq
      obtain ⟨hq3, hq4, hq5⟩ := hq2
      have HF := hide (fun wx (hbx : Below wr.heap.size wr wx) => putRelease_any q.1 A2 n2 k2 q.2 wx (NdOn.on (hs2.more hbs) hbx) hq3 (by have := hs2.len; omega) hq5)
      unfold MakesB at HF
      have Hft := hide (flat_take relB l i q hx)
      have hf1 := hfl i
      have hf2 := relB_len q hq
      have ef : relB q = encN q.1 ++ listB needB q.2 := rfl
      rw [ef] at hf2 Hft
      have hl1 : (X ++ flat relB (l.take i)).length ≤ 20000000 := by rw [List.length_append]; omega
      obtain ⟨z, s⟩ := q
      simp only [] at c1 c2
      clear hx hs h hfl
      go_wp2_with (first
        | (go_at_call 48
           refine (HF.out _ (alloc_b _)).mono ?_
           rintro e w6 ⟨A6, n6, c6, rfl, hn6, hb6⟩
           have hb56 : Below wr.heap.size wr w6 := (alloc_b _).trans (hb6.mono (by simp))
           have hbw6 : Below w.heap.size w w6 := hb.trans (hb56.mono hbs)
           have hown6 := own_below hown hb56
           have Hl6 := hide hn6.1)
        | (at_builtin
           refine wpList_append_any _ rfl (.tmp 18) (.tmp 21) _ rfl w.heap.size 5 i0 _ 1 1 Try.underlying31 hi0 hz0 hz1 hz2 rfl (by omega) _ _ _ rfl
             hown6 w6.heap.size A6 n6 c6 _ rfl hn6.2.2.2 (bcs_one _) (by have := Hl6.out; simp only [maxLen]; omega) (by have := Hl6.out; omega) hbw6.size ?_
           intro v7 w7 hown7 hg7 hat7
           rw [← bcs_append, Hl6.out, ← List.length_append, List.append_assoc, ← Hft.out] at hown7
           have hb7 : Below w.heap.size w w7 := hbw6.grown hg7 hbw6.size (fun k hk => (hown6.lt k hk).1)))
      go_roundw
      case rel => exact ⟨i + 1, by omega, by go_num, hown7, hb7⟩
      case measure => simp [RowKit.intOf]; omega
    · have hi2 : i = n := by omega
      subst hi2
      rw [List.take_of_length_le (by rw [Hlen.out]; exact Nat.le_refl _)] at hown
      obtain ⟨A9, c9, rfl, hN9⟩ := new_of_own hown
      go_wp2
      go_ret
      exact ⟨_, _, _, rfl, hN9, hb⟩
end Go.Proofs.Ytbagekkcakfhgaa.Wire
/-
  The contract of the program's Put: it answers a new slice of the document's bytes, of none where the manifest may not be. Condition: what its Check tells.
-/
namespace Go.Proofs.Ytbagekkcakfhgaa.Wire
open Go Go.RowKit Go.Lib Go.Proofs.Ytbagekkcakfhgaa.Span Go.Proofs.Ytbagekkcakfhgaa.Need Go.Proofs.Ytbagekkcakfhgaa.Mani Go.Proofs.Ytbagekkcakfhgaa.Grow
open Go.Proofs.Ytbagekkcakfhgaa.Vlq (enc held put_new text_new encs)
set_option linter.unusedVariables false
set_option maxHeartbeats 1600000 in
set_option maxRecDepth 100000 in
theorem putNone_any (nm : ByteArray) (A : Option Addr) (n c : Nat) (l : List Rl) (w : World) (HC : ∀ wx, Below w.heap.size w wx → Calls Try.prog 35 #[.agg #[.string nm, .slice A n c]] wx (Tells wx (.bool false))) :
    Calls Try.prog 31 #[.agg #[.string nm, .slice A n c]] w (MakesB w []) := by
  unfold MakesB
  unfold Tells at HC
  have H := hide HC
  clear HC
  go_enter Try.func31, Try.ntmps31
  go_wp2_with (first
    | (go_at_call 35
       refine (H.out _ (alloc_b _)).mono ?_
       rintro e w1 ⟨rfl, hb1⟩
       have hbb : Below w.heap.size w w1 := (alloc_b _).trans (hb1.mono (by simp))))
  go_ret
  exact ⟨none, 0, 0, rfl, ⟨rfl, Nat.le_refl _, World.ownsRow_nil _ _ _ _, Reads.none_⟩, hbb⟩
set_option maxHeartbeats 4000000 in
set_option maxRecDepth 100000 in
theorem putMan_any (nm : ByteArray) (A : Option Addr) (n c : Nat) (l : List Rl) (w : World) (h : RlOn w A n l) (hC : ∀ wx, Below w.heap.size w wx → Calls Try.prog 35 #[.agg #[.string nm, .slice A n c]] wx (Tells wx (.bool true))) (hnm : nm.size ≤ 24) (hn : n ≤ 8) (hs : ∀ x ∈ l, RelOk x) :
    Calls Try.prog 31 #[.agg #[.string nm, .slice A n c]] w (MakesB w (textB nm ++ listB relB l)) := by
  unfold MakesB
  obtain ⟨i0, hi0, hz0, hz1, hz2⟩ := info_parts info_u8
  have HL := hide (fun (wx : World) (hbx : Below w.heap.size w wx) => putListR_any l A n c wx (h.on hbx) (by omega) hs)
  unfold MakesB at HL
  unfold Tells at hC
  have HC := hide hC
  clear hC
  have HT := hide (fun (wx : World) => text_B nm wx hnm)
  unfold MakesB at HT
  have hl2 := listB_len relB l 522 8 (fun x hx => relB_len x (hs x hx)) (by first | (have := h.len; omega) | (rw [h.len]; omega)) (by omega)
  have hl1 : (textB nm).length ≤ 30 := by have := textB_len nm hnm; omega
  generalize listB relB l = L2 at *
  generalize textB nm = L1 at *
  go_enter Try.func31, Try.ntmps31
  go_upto_region 3 with (first
    | (go_at_call 35
       refine (HC.out _ (alloc_b _)).mono ?_
       rintro e wr ⟨rfl, hb1⟩
       have hB0 : Blk wr w.heap.size 28 #[.string nm, .slice A n c] := (Blk.new w _ _).below hb1 (by simp)
       have hbw : Below w.heap.size w wr := (alloc_b _).trans (hb1.mono (by simp))))
  have hbs := hbw.size
  have q1 := cell_reg_ ((hB0.cell 0).trans rfl) hB0.lt
  have q2 := cell_reg_ ((hB0.cell 1).trans rfl) hB0.lt
  refine wp_region_grow_w [(8, isB w.heap.size L1), (11, isB w.heap.size L2)] [8, 11] 6 (catsB w.heap.size L1 L2) _
    (by kernel_rfl) (by kernel_rfl) rfl (by kernel_rfl) (by kernel_rfl) (by kernel_rfl) rfl rfl (by kernel_rfl) (by kernel_rfl) ⟨isB_stable _ _, isB_stable _ _, trivial⟩ ?_
  repeat (first
    | (refine lexK_skip (by decide) rfl ?_; simp only [Act.put, List.setIfInBounds_toArray, List.set_cons_zero, List.set_cons_succ])
    | (refine lexK_quiet (by decide) rfl rfl rfl (fun K hK => ?_); unfold Reg; go_big_quiet_op; refine hK _ ?_; clear hK K)
    | (refine lexK_rel (by decide) rfl rfl (fun w' hb9 hK => ?_) (fun v w' hb9 hv => ?_)
       · unfold grows
         go_simp
         go_at_call 46
         refine (HT.out w').mono ?_
         rintro e w5 ⟨A5, n5, c5, rfl, hN5, hb5⟩
         exact ⟨_, rfl, hb5, A5, n5, c5, rfl, hN5.less (by have := hb9.size; omega)⟩
       obtain ⟨A6, n6, c6, rfl, hI6⟩ := hv
       simp only [Act.put, List.setIfInBounds_toArray, List.set_cons_zero, List.set_cons_succ])
    | (refine lexK_rel (by decide) rfl rfl (fun w' hb9 hK => ?_) (fun v w' hb9 hv => ?_)
       · unfold grows
         go_simp
         go_at_call 47
         refine (HL.out w' (hbw.trans (hb9.mono hbs))).mono ?_
         rintro e w5 ⟨A5, n5, c5, rfl, hN5, hb5⟩
         exact ⟨_, rfl, hb5, A5, n5, c5, rfl, hN5.less (by have := hb9.size; omega)⟩
       obtain ⟨A8, n8, c8, rfl, hI8⟩ := hv
       simp only [Act.put, List.setIfInBounds_toArray, List.set_cons_zero, List.set_cons_succ])
    | (refine lexK_wr rfl rfl (fun w' hb9 hK => ?_) (fun v w' w'' hb9 hv => ?_)
       · obtain ⟨A4, n4, c4, e4, hN4⟩ := hK.at_ 8 rfl (slice_def _ _ _)
         have e4' : Value.slice A6 n6 c6 = .slice A4 n4 c4 := e4
         injection e4' with e5 e6 e7
         subst e5 e6 e7
         obtain ⟨A3, n3, c3, e3, hN3⟩ := hK.at_ 11 rfl (slice_def _ _ _)
         have e3' : Value.slice A8 n8 c8 = .slice A3 n3 c3 := e3
         injection e3' with e5 e6 e7
         subst e5 e6 e7
         have hsz9 : w.heap.size ≤ w'.heap.size := Nat.le_trans hbs hb9.size
         refine grows_append (.tmp 8) (.tmp 11) _ rfl w.heap.size 5 i0 _ 1 1 Try.underlying31 hi0 hz0 hz1 hz2 rfl (by omega) _ n6 (bcs L1) rfl hN4.2.2.1 _ _ n8 _ _ rfl hN3.2.2.2 (bcs_one _) (by have := hN4.1; have := hN3.1; unfold maxLen; omega) (by have := hN4.1; have := hN3.1; omega) hsz9 ?_
         intro v' w5 hown hg _
         exact cats_of hN4 hN3.1 hsz9 hown hg
       obtain ⟨Av, nv, cv, rfl, _, _⟩ := hv
       simp only [Act.put, List.setIfInBounds_toArray, List.set_cons_zero, List.set_cons_succ])
    | (refine lexK_late (by decide) rfl rfl (fun K hK => ?_); go_big_quiet_op; refine hK _ ?_; clear hK K))
  refine lexK_nil (fun w9 w1 v hC9 hall hS hd => ?_)
  have hb9 := reg_iff.1 hC9
  have hv9 := (hd 12 rfl).resolve_right (slice_def _ _ _)
  have hv9' : Value.slice Av nv cv = v := hv9
  subst hv9'
  obtain ⟨A2, n2, c2, e2, hN2, hb2⟩ := hS
  injection e2 with e5 e6 e7
  subst e5 e6 e7
  have hbb : Below w.heap.size w w9 := (hbw.trans (hb9.mono hbs)).trans hb2
  clear hall hd hv9 hC9 q1 q2 hb2
  go_wp2
  go_ret
  exact ⟨_, _, _, rfl, hN2, hbb⟩
end Go.Proofs.Ytbagekkcakfhgaa.Wire
