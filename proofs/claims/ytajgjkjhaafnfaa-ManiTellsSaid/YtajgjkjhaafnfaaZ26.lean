/-
  Some texts of this claim, one behind the other: ManiRefNames. What each proves, and its condition, stands at its head.
-/
import Derived.Test.YtajgjkjhaafnfaaZ25
import Derived.Test.YtajgjkjhaafnfaaZ23
/-
  Contracts of the document's Add and Names: a name put into names; the names that a manifest's releases need. Condition: lists of a length that may be walked.
-/
namespace Go.Proofs.Ytajgjkjhaafnfaa.Mani
open Go Go.RowKit Go.Lib Go.Proofs.Ytajgjkjhaafnfaa.Span Go.Proofs.Ytajgjkjhaafnfaa.Need
set_option linter.unusedVariables false
theorem info_str : (Try.prog.info? 9).map (fun i => (i.zero, i.size, i.bytes)) = some (some (.string ByteArray.empty), 1, 16) := by kernel_rfl
theorem one_str (x : ByteArray) : ∀ u ∈ [Value.string x], u.oneCell' = true := by
  intro u hu
  rw [List.mem_singleton.1 hu]; rfl
theorem own_texts {w : World} {B n : Nat} {v : Value} {L : List ByteArray} (h : w.ownsRow B 9 1 v n (tcs L)) : ∃ A c, v = .slice A n c ∧ n ≤ c ∧ TxOn w A n L := by
  obtain ⟨A, c, rfl, hc, hm, hr⟩ := own_form h
  exact ⟨A, c, rfl, hc, hr⟩
set_option maxHeartbeats 4000000 in
set_option maxRecDepth 100000 in
theorem add_any (l : List ByteArray) (x : ByteArray) (A : Option Addr) (n c : Nat) (w : World) (h : TxOn w A n l) (hn : n ≤ 10000) :
    Calls Try.prog 49 #[.slice A n c, .string x] w (MakesT w (addF x false l)) := by
  unfold MakesT
  obtain ⟨i0, hi0, hz0, hz1, hz2⟩ := info_parts info_str
  have Hlen := hide h.len
  obtain ⟨M, hM⟩ : ∃ M, M = addF x false l := ⟨_, rfl⟩
  rw [← hM]
  have HM := hide hM
  clear hM
  go_enter Try.func49, Try.ntmps49
  go_wp2
  go_loopw [5, 6, 7] (fun u b v wr => ∃ (i m : Nat) (q : Bool) (out : List ByteArray), i ≤ n ∧ v = .int .i64 (i : Int) ∧ b = .bool q ∧ wr.ownsRow w.heap.size 9 1 u m (tcs out) ∧ m ≤ i + 1 ∧ Hid (q = false → m ≤ i) ∧ Hid (out ++ addF x q (l.drop i) = M) ∧ Below w.heap.size w wr) (fun _ _ v _ => n - (RowKit.intOf v).toNat)
  case atStart => exact ⟨0, 0, false, [], by omega, rfl, rfl, World.ownsRow_nil _ _ _ _, by omega, hide (fun _ => by omega), hide (by rw [HM.out]; rfl), Below.refl _ _⟩
  case round =>
    obtain ⟨i, m, q, out, hi, rfl, rfl, hown, hmi, hmq, hout, hb⟩ := hrel
    have hbs := hb.size
    obtain ⟨Ax, cx, rfl, hcx, hrd⟩ := own_texts hown
    by_cases hlt : i < n
    · obtain ⟨ad, y, rfl, had, hy, hc⟩ := tcs_at h hlt
      have hc0 := (hb.cell (p := ad.add i) (by rw [block_of_add]; exact had)).trans hc
      have hd := drop_cons_at hy
      have hout2 := hout.out
      rw [hd] at hout2
      clear hrd hd hy hout h
      cases q with
      | true =>
        rw [addF, if_pos rfl] at hout2
        have Ho := hide (show (out ++ [y]) ++ addF x true (l.drop (i + 1)) = M by rw [← hout2]; simp)
        clear hout2
        go_wp2_with (at_builtin
                     refine wpList_append_any _ rfl (.tmp 34) (.tmp 39) _ rfl w.heap.size 9 i0 _ 1 16 Try.underlying40 hi0 hz0 hz1 hz2 rfl (by omega) _ m (tcs out) rfl (own_below hown (alloc_b (.cells #[.string y] 9))) _ _ 1 _ _ rfl (Reads.new1 wr 9 (.string y)) (one_str _) (by unfold maxLen; omega) (by omega) (by simp; omega) ?_
                     intro v2 w3 hown3 hg3 _
                     have hb3 : Below w.heap.size w w3 := (hb.alloc hbs _).grown hg3 (by simp; omega) (fun k hk => (hown.lt k hk).1))
        go_roundw
        case rel => exact ⟨i + 1, m + 1, true, out ++ [y], by omega, by go_num, rfl, by rw [tcs_append]; exact hown3, by omega, hide (fun h => by cases h), Ho, hb3⟩
        case measure => simp [RowKit.intOf]; omega
      | false =>
        have hmi2 := hmq.out rfl
        rcases tri x y with ⟨f1, f2, f3⟩ | ⟨f1, f2, f3⟩ | ⟨f1, f2, f3⟩
        · rw [addF_lt (show nlt x y = true from f1)] at hout2
          have Ho := hide (show ((out ++ [x]) ++ [y]) ++ addF x true (l.drop (i + 1)) = M by rw [← hout2]; simp)
          clear hout2 f2
          go_wp2_with (first
            | (at_builtin
               refine wpList_append_any _ rfl (.tmp 34) (.tmp 39) _ rfl w.heap.size 9 i0 _ 1 16 Try.underlying40 hi0 hz0 hz1 hz2 rfl (by omega) _ (m + 1) (tcs (out ++ [x])) rfl (own_below hown3' (alloc_b (.cells #[.string y] 9))) _ _ 1 _ _ rfl (Reads.new1 w3 9 (.string y)) (one_str _) (by unfold maxLen; omega) (by omega) (by simp; omega) ?_
               intro v4 w4 hown4x hg4 _
               have hown4 : w4.ownsRow w.heap.size 9 1 v4 (m + 1 + 1) ((tcs out ++ tcs [x]) ++ tcs [y]) := by
                 have := hown4x
                 rw [tcs_append] at this
                 exact this
               have hb4 : Below w.heap.size w w4 := (hb3.alloc hbs3 _).grown hg4 (by simp; omega) (fun k hk => (hown3'.lt k hk).1))
            | (at_builtin
               refine wpList_append_any _ rfl (.tmp 24) (.tmp 26) _ rfl w.heap.size 9 i0 _ 1 16 Try.underlying40 hi0 hz0 hz1 hz2 rfl (by omega) _ m (tcs out) rfl (own_below hown (alloc_b (.cells #[.string x] 9))) _ _ 1 _ _ rfl (Reads.new1 wr 9 (.string x)) (one_str _) (by unfold maxLen; omega) (by omega) (by simp; omega) ?_
               intro v2 w3 hown3 hg3 _
               have hb3 : Below w.heap.size w w3 := (hb.alloc hbs _).grown hg3 (by simp; omega) (fun k hk => (hown.lt k hk).1)
               have hbs3 := hb3.size
               have hown3' : w3.ownsRow w.heap.size 9 1 v2 (m + 1) (tcs (out ++ [x])) := by rw [tcs_append]; exact hown3
               obtain ⟨A3, c3, rfl, _, _⟩ := own_texts hown3'
               have hc3 := (hb3.cell (p := ad.add i) (by rw [block_of_add]; exact had)).trans hc))
          go_roundw
          case rel => exact ⟨i + 1, m + 1 + 1, true, (out ++ [x]) ++ [y], by omega, by go_num, rfl, by rw [tcs_append, tcs_append]; exact hown4, by omega, hide (fun h => by cases h), Ho, hb4⟩
          case measure => simp [RowKit.intOf]; omega
        · have exy : x = y := of_decide_eq_true (by rw [← eq_names]; exact f3)
          rw [addF_eq exy] at hout2
          have Ho := hide (show (out ++ [x]) ++ addF x true (l.drop (i + 1)) = M by rw [← hout2]; simp)
          clear hout2 f2 exy
          go_wp2_with (at_builtin
                       refine wpList_append_any _ rfl (.tmp 24) (.tmp 26) _ rfl w.heap.size 9 i0 _ 1 16 Try.underlying40 hi0 hz0 hz1 hz2 rfl (by omega) _ m (tcs out) rfl (own_below hown (alloc_b (.cells #[.string x] 9))) _ _ 1 _ _ rfl (Reads.new1 wr 9 (.string x)) (one_str _) (by unfold maxLen; omega) (by omega) (by simp; omega) ?_
                       intro v2 w3 hown3 hg3 _
                       have hb3 : Below w.heap.size w w3 := (hb.alloc hbs _).grown hg3 (by simp; omega) (fun k hk => (hown.lt k hk).1)
                       have hbs3 := hb3.size
                       have hown3' : w3.ownsRow w.heap.size 9 1 v2 (m + 1) (tcs (out ++ [x])) := by rw [tcs_append]; exact hown3
                       obtain ⟨A3, c3, rfl, _, _⟩ := own_texts hown3'
                       have hc3 := (hb3.cell (p := ad.add i) (by rw [block_of_add]; exact had)).trans hc)
          go_roundw
          case rel => exact ⟨i + 1, m + 1, true, out ++ [x], by omega, by go_num, rfl, hown3', by omega, hide (fun h => by cases h), Ho, hb3⟩
          case measure => simp [RowKit.intOf]; omega
        · rw [addF_gt f2] at hout2
          have Ho := hide (show (out ++ [y]) ++ addF x false (l.drop (i + 1)) = M by rw [← hout2]; simp)
          clear hout2 f2
          go_wp2_with (at_builtin
                       refine wpList_append_any _ rfl (.tmp 34) (.tmp 39) _ rfl w.heap.size 9 i0 _ 1 16 Try.underlying40 hi0 hz0 hz1 hz2 rfl (by omega) _ m (tcs out) rfl (own_below hown (alloc_b (.cells #[.string y] 9))) _ _ 1 _ _ rfl (Reads.new1 wr 9 (.string y)) (one_str _) (by unfold maxLen; omega) (by omega) (by simp; omega) ?_
                       intro v2 w3 hown3 hg3 _
                       have hb3 : Below w.heap.size w w3 := (hb.alloc hbs _).grown hg3 (by simp; omega) (fun k hk => (hown.lt k hk).1))
          go_roundw
          case rel => exact ⟨i + 1, m + 1, false, out ++ [y], by omega, by go_num, rfl, by rw [tcs_append]; exact hown3, by omega, hide (fun _ => by omega), Ho, hb3⟩
          case measure => simp [RowKit.intOf]; omega
    · have hi2 : i = n := by omega
      have hout2 := hout.out
      rw [List.drop_of_length_le (by have := Hlen.out; omega)] at hout2
      clear hout h HM
      cases q with
      | true =>
        have e : out = M := by rw [← hout2]; simp [addF]
        subst e
        clear hout2
        go_wp2
        go_ret
        exact ⟨Ax, m, cx, rfl, hrd, hb⟩
      | false =>
        have e : out ++ [x] = M := by rw [← hout2]; rfl
        subst e
        clear hout2 hrd
        go_wp2_with (at_builtin
                     refine wpList_append_any _ rfl (.tmp 43) (.tmp 45) _ rfl w.heap.size 9 i0 _ 1 16 Try.underlying40 hi0 hz0 hz1 hz2 rfl (by omega) _ m (tcs out) rfl (own_below hown (alloc_b (.cells #[.string x] 9))) _ _ 1 _ _ rfl (Reads.new1 wr 9 (.string x)) (one_str _) (by unfold maxLen; omega) (by omega) (by simp; omega) ?_
                     intro v2 w3 hown3 hg3 _
                     have hb3 : Below w.heap.size w w3 := (hb.alloc hbs _).grown hg3 (by simp; omega) (fun k hk => (hown.lt k hk).1))
        obtain ⟨A9, c9, rfl, _, hrd9⟩ := own_texts (L := out ++ [x]) (by rw [tcs_append]; exact hown3)
        go_ret
        first | exact ⟨A9, m + 1, c9, rfl, hrd9, hb3⟩ | exact ⟨A9, m + 1, ⟨c9, rfl⟩, hrd9, hb3⟩
set_option maxHeartbeats 4000000 in
set_option maxRecDepth 100000 in
theorem refNamesM_any (nm : ByteArray) (l : List Rl) (A : Option Addr) (n c : Nat) (w : World) (h : RlOn w A n l) (hl : FineR l) :
    Calls Try.prog 22 #[.agg #[.string nm, .slice A n c]] w (MakesT w (foldN (allN l))) := by
  unfold MakesT
  have Hlen := hide h.len
  have hn : n ≤ 30 := by rw [← h.len]; exact hl.1
  have hal : ∀ i, (allN (l.take i)).length ≤ 1200 := fun i => by
    have h1 := allN_len (l := l.take i) fun q hq => (hl.2 q (List.mem_of_mem_take hq)).1
    rw [List.length_take] at h1
    have := hl.1
    omega
  have Hal := hide hal
  clear hal
  go_enter Try.func22, Try.ntmps22
  go_wp2
  go_loopw [3, 4] (fun u v wr => ∃ (i m : Nat) (Ax : Option Addr) (cx : Nat), i ≤ n ∧ u = .slice Ax m cx ∧ v = .int .i64 (i : Int) ∧ TxOn wr Ax m (foldN (allN (l.take i))) ∧ Blk wr w.heap.size 24 #[.string nm, .slice A n c] ∧ Below w.heap.size w wr) (fun _ v _ => n - (RowKit.intOf v).toNat)
  case atStart => exact ⟨0, 0, none, 0, by omega, rfl, rfl, ⟨rfl, fun h => absurd h (by omega)⟩, Blk.new _ _ _, (Below.refl _ _).alloc (Nat.le_refl _) _⟩
  case round =>
    obtain ⟨i, m, Ax, cx, hi, rfl, rfl, hT, hm, hb⟩ := hrel
    have hbs := hb.size
    have m1 := hm.cell 1
    by_cases hlt : i < n
    · obtain ⟨ad, q, A', n', c', rfl, hbl, hx, hs, c1, c2⟩ := RlIn.at_ (RlIn.below h hb) hlt
      have hq := hl.2 q (List.mem_of_getElem? hx)
      have hstep : allN (l.take (i + 1)) = allN (l.take i) ++ namesS q.2 := by rw [take_snoc' l i q hx, allN_snoc]
      obtain ⟨z, s⟩ := q
      simp only [] at c1 c2 hs hq hstep
      have hsl := hs.len
      have hn' : n' ≤ 40 := by have := hq.1; omega
      have hs2 := hs.more hbs
      clear hx
      obtain ⟨W1, hW1⟩ : ∃ W1, W1 = wr := ⟨wr, rfl⟩
      subst hW1
      go_wp2
      go_loopw [3, 6] (fun u v wq => ∃ (k m : Nat) (Ax : Option Addr) (cx : Nat), k ≤ n' ∧ u = .slice Ax m cx ∧ v = .int .i64 (k : Int) ∧ TxOn wq Ax m (foldN (allN (l.take i) ++ namesS (s.take k))) ∧ Below W1.heap.size W1 wq) (fun _ v _ => n' - (RowKit.intOf v).toNat)
      case atStart => exact ⟨0, m, Ax, cx, by omega, rfl, rfl, by simpa [namesS] using hT, Below.refl _ _⟩
      case round =>
        obtain ⟨k, m', Ax', cx', hk, rfl, rfl, hT', hbq⟩ := hrel
        have hbqs := hbq.size
        by_cases hkt : k < n'
        · obtain ⟨ad', y, B1, j1, e1, rfl, hbl', hy, _, d1, d2⟩ := NdIn.at_ (NdIn.below hs2 hbq) hkt
          have hst2 : foldN (allN (l.take i) ++ namesS (s.take (k + 1))) = addF y.1 false (foldN (allN (l.take i) ++ namesS (s.take k))) := by rw [namesS_take hy, ← List.append_assoc, foldN_snoc]
          have hm10 : m' ≤ 10000 := by
            have h1 := hT'.len
            have h2 := foldN_len (allN (l.take i) ++ namesS (s.take k))
            rw [List.length_append] at h2
            have h3 := Hal.out i
            have h4 : (namesS (s.take k)).length ≤ 40 := by unfold namesS; rw [List.length_map, List.length_take]; omega
            omega
          have HA := hide (add_any _ y.1 Ax' m' cx' wr hT' hm10)
          unfold MakesT at HA
          rw [← hst2] at HA
          obtain ⟨yn, ys⟩ := y
          simp only [] at d1 d2 HA
          clear hst2 hy hT' h hl hs hs2 hT
          go_wp2_with (go_at_call 49
                       refine HA.out.mono ?_
                       rintro e w1 ⟨A1, n1, c1', rfl, h1, hb1⟩
                       have hbx := hbq.trans (hb1.mono hbqs))
          go_roundw
          case rel => exact ⟨k + 1, n1, A1, c1', by omega, rfl, by go_num, h1, hbx⟩
          case measure => simp [RowKit.intOf]; omega
        · have hk2 : k = n' := by omega
          rw [List.take_of_length_le (show s.length ≤ k by omega), ← hstep] at hT'
          have hbw := hb.trans (hbq.mono hbs)
          have hm2 := hm.below hbq hm.lt
          clear h hl hs hs2 hT hstep
          go_wp2
          go_roundw
          case rel => exact ⟨i + 1, m', Ax', cx', by omega, rfl, by go_num, hT', hm2, hbw⟩
          case measure => simp [RowKit.intOf]; omega
    · have hi2 : i = n := by omega
      subst hi2
      rw [List.take_of_length_le (by rw [Hlen.out]; exact Nat.le_refl _)] at hT
      clear h hl
      go_wp2
      go_ret
      exact ⟨Ax, m, cx, rfl, hT, hb⟩
end Go.Proofs.Ytajgjkjhaafnfaa.Mani
