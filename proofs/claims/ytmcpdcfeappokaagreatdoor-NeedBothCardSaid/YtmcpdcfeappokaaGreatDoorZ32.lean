/-
  Some texts of this claim, one behind the other: NeedRuleRead. What each proves, and its condition, stands at its head.
-/
import Derived.Test.YtmcpdcfeappokaaGreatDoorZ31
import Derived.Test.YtmcpdcfeappokaaGreatDoorZ6
/-
  The contract of rule's Read once more, with where the set lies: in a row of spans. Condition: the tables hold what the texts lay in them.
-/
namespace Go.Proofs.YtmcpdcfeappokaaGreatDoor.Need
open Go Go.RowKit Go.Lib Go.Proofs.YtmcpdcfeappokaaGreatDoor.Span
theorem insNil (w : World) (A : Option Addr) : InS w 0 A 0 [] := ⟨SpIn.nil _ _ _, fun _ _ h => absurd h (by omega)⟩
end Go.Proofs.YtmcpdcfeappokaaGreatDoor.Need
namespace Go.Proofs.YtmcpdcfeappokaaGreatDoor.Rule
open Go Go.RowKit Go.Lib Go.Proofs.YtmcpdcfeappokaaGreatDoor.Span
open Go.Proofs.YtmcpdcfeappokaaGreatDoor.Ver (Tabs)
set_option linter.unusedVariables false
theorem union_ins {A A' : Option Addr} {n c n' c' : Nat} {l m : List S} {w : World} (h : SpOn w A n l) (h' : SpOn w A' n' m) (hs : isSet (-1) l = true) (hs' : isSet (-1) m = true) :
    Calls Tryz.prog 101 #[.slice A n c, .slice A' n' c'] w fun e w' => ∃ A n c, e = .returned (.slice A n c) ∧ Need.InS w' 0 A n (unionS l m) ∧ Below w.heap.size w w' :=
  (union_any w h h' (Nat.le_refl _) (Nat.le_refl _) hs hs').mono fun _ _ ⟨A, n, c, he, hN, hb⟩ => ⟨A, n, c, he, .of_new hN, hb⟩
theorem all_ins (w : World) :
    Calls Tryz.prog 53 #[] w fun e w' => ∃ A n c, e = .returned (.slice A n c) ∧ Need.InS w' 0 A n [(0, 1000000000)] ∧ Below w.heap.size w w' := by
  have hrd := hide (spIn_of_reads (reads_one w 0 1000000000 _ rfl))
  go_enter Tryz.func53, Tryz.ntmps53
  go_wp2
  go_ret
  exact ⟨some ⟨w.heap.size, 0, none⟩, 1, 1, rfl, ⟨(hrd.out).more (by simp), fun ad hA _ => .inr ⟨_, _, by injection hA with hA; subst hA; exact heap_alloc_new w _⟩⟩, (Below.refl _ _).alloc (Nat.le_refl _) _⟩
set_option maxHeartbeats 2000000 in
set_option maxRecDepth 100000 in
theorem readL_any (qs : List Pc) (A : Option Addr) (n c : Nat) (w : World) (h : PcIn w w.heap.size A n qs) (hs : Short qs) (hn : n ≤ 1000000) (hT : Tabs w) :
    Calls Tryz.prog 86 #[.slice A n c] w fun e w' => ∃ A' n' c', e = .returned (.tuple #[.slice A' n' c', .int .i64 (wrongOf (readI [] qs))]) ∧ (∀ l, readI [] qs = .ok l → Need.InS w' 0 A' n' (setOf l)) ∧ Below w.heap.size w w' := by
  obtain ⟨R, hR⟩ : ∃ R, R = readI [] qs := ⟨_, rfl⟩
  rw [← hR]
  have HT := hide hT
  have HS := hide hs
  clear hT hs
  have hql := h.1
  have H := hide h
  clear h
  go_enter Tryz.func86, Tryz.ntmps86
  go_wp2
  go_step3
  go_wp2
  go_step3
  go_wp2
  go_loopw [4, 5, 15] (fun u v x wr => ∃ (i m k : Nat) (B : Option Addr) (acc : List S), i ≤ n ∧ u = .slice B m k ∧ v = .int .i64 (-1) ∧ x = .int .i64 (i : Int) ∧ Need.InS wr 0 B m (setOf acc) ∧ Hid (R = readI acc (qs.drop i)) ∧ Below w.heap.size w wr) (fun _ _ x _ => n - (intOf x).toNat)
  case atStart => exact ⟨0, 0, 0, none, [], by omega, rfl, rfl, rfl, by rw [setOf_nil]; exact Need.insNil _ _, hide hR, Below.refl _ _⟩
  case round =>
    obtain ⟨i, m, k, B, acc, hi, rfl, rfl, rfl, hU, hG, hb⟩ := hrel
    clear hR
    by_cases hlt : i < n
    · obtain ⟨ad, q, A1, n1, c1, rfl, hbl, hq, hW, p1, p2⟩ := (H.out.below hb).at_ hlt
      have hdr := drop_at hq
      have HG := hide (hG.out.trans (by rw [hdr, readI_step]))
      obtain ⟨hqn, hqs⟩ := HS.out q (List.mem_of_getElem? hq)
      have hbs := hb.size
      clear hdr hG HS
      by_cases hne : q.1 = []
      · have hn1 : n1 = 0 := by rw [hW.head, hne]; rfl
        subst hn1
        have HR : Hid (R = .error q.2) := hide (by rw [HG.out]; simp [pieceI, hne])
        clear hne HG
        go_wp2
        try rw [Exit.noGoto_ret]
        go_ret2
        rw [HR.out]
        exact ⟨_, _, _, rfl, (fun l hl => by cases hl), hb.alloc hbs _⟩
      · have hn1 : ((n1 : Int) == 0) = false := beq_eq_false_iff_ne.2 fun e => hne (List.eq_nil_of_length_eq_zero (by rw [hW.1]; omega))
        have hF : ((n1 : Int) == 1) = decide (q.1.length = 1) := by
          rw [hW.1, Bool.eq_iff_iff, beq_iff_eq, decide_eq_true_eq]; omega
        have HP : Hid (pieceI q = meetI (decide (q.1.length = 1)) (0, 1000000000) q.1) := hide (by unfold pieceI; rw [if_neg hne])
        generalize decide (q.1.length = 1) = F at *
        have hBk := Blk.new wr 127 #[.slice A1 n1 c1, .int .i64 (q.2 : Int)]
        have hba : Below wr.heap.size wr (wr.alloc (.cells #[.slice A1 n1 c1, .int .i64 (q.2 : Int)] 127)) := alloc_b _
        have hql2 := hW.1
        have hqn1 : n1 ≤ 1000000 := by rw [← hql2]; exact hqn
        have HW := hide hW
        clear hne hW hq
        obtain ⟨qw, qe⟩ := q
        simp only [] at *
        go_wp2_with (go_at_call 53
                     refine (all_on _).mono ?_
                     rintro e w2 ⟨A2, n2, c2, rfl, h2, hb2⟩
                     have hB2 := hBk.below hb2 (by simp)
                     have k0 := hB2.cell 0
                     have k1 := hB2.cell 1
                     have hbx := hba.trans (hb2.mono hba.size))
        clear k0 k1 p1 p2 hb2 hba hBk
        go_loopw [5, 8, 29] (fun v y z wr2 => ∃ (j m2 k2 : Nat) (B2 : Option Addr) (b : S), j ≤ n1 ∧ v = .int .i64 (-1) ∧ y = .slice B2 m2 k2 ∧ z = .int .i64 (j : Int) ∧ SpOn wr2 B2 m2 (setOf [b]) ∧ Hid (pieceI (qw, qe) = meetI F b (qw.drop j)) ∧ Blk wr2 wr.heap.size 127 #[.slice A1 n1 c1, .int .i64 (qe : Int)] ∧ Below wr.heap.size wr wr2) (fun _ _ z _ => n1 - (intOf z).toNat)
        case atStart => exact ⟨0, n2, c2, A2, (0, 1000000000), by omega, rfl, rfl, rfl, h2, HP, hB2, hbx⟩
        case round =>
          clear hB2 h2 HP hbx
          obtain ⟨j, m2, k2, B2, b, hj, rfl, rfl, rfl, hb2, hG2, hBk, hbx⟩ := hrel
          have hbw := hb.trans (hbx.mono hbs)
          have hUx := Need.InS.below hU hbx
          by_cases hjl : j < n1
          · obtain ⟨ax, x, rfl, hbl2, hx, q1, q2⟩ := (HW.out.below (hbx.mono hbs)).at_ hjl
            have hxs := hqs x (List.mem_of_getElem? hx)
            have hdr := drop_at hx
            have HG2 := hide (hG2.out.trans (by rw [hdr, meetI_step]))
            obtain ⟨xt, xp⟩ := x
            simp only [] at q1 q2 hxs HG2
            have k0 := hBk.cell 0
            have k1 := hBk.cell 1
            have hlt2 := hBk.lt
            have HM := hide (fun wx (hbz : Below w.heap.size w wx) => meaning_on xt F wx hxs (HT.out.below hbz))
            have hBw := Blk.new wr 129 #[.string (str xt), .int .i64 (xp : Int)]
            have hbA : Below w.heap.size w (wr.alloc (.cells #[.string (str xt), .int .i64 (xp : Int)] 129)) := hbw.alloc hbw.size _
            clear hdr hG2 hx
            cases hm : mean F xt with
            | none =>
              rw [hm] at HM HG2
              have HR : Hid (R = .error xp) := hide (by rw [HG.out, HG2.out])
              clear HG HG2 hm
              go_wp2_with (go_at_call 100
                           refine (HM.out _ hbA).mono ?_
                           rintro e w3 ⟨A3, n3, c3, rfl, h3, hb3⟩
                           have hB3 := hBw.below hb3 (by simp)
                           have x0 := hB3.cell 0
                           have x1 := hB3.cell 1)
              try rw [Exit.noGoto_ret]
              go_ret2
              rw [HR.out]
              exact ⟨_, _, _, rfl, (fun l hl => by cases hl), hbA.trans (hb3.mono hbA.size)⟩
            | some iv =>
              rw [hm] at HM HG2
              clear hm
              have HG3 : Hid (pieceI (qw, qe) = meetI F (inter b iv) (qw.drop (j + 1))) := HG2
              have hb2A := hb2.on (alloc_b (w := wr) (.cells #[.string (str xt), .int .i64 (xp : Int)] 129))
              have hbxA := hbx.alloc hbx.size (.cells #[.string (str xt), .int .i64 (xp : Int)] 129)
              have hBkA := hBk.alloc (.cells #[.string (str xt), .int .i64 (xp : Int)] 129)
              clear HG2 HG
              go_wp2_with (first
                | (go_at_call 100
                   refine (HM.out _ hbA).mono ?_
                   rintro e w3 ⟨A3, n3, c3, rfl, h3, hb3⟩
                   have hb23 := hb2A.on hb3
                   have h3' : SpOn w3 A3 n3 (setOf [iv]) := h3)
                | (go_at_call 30
                   refine (meet_on hb23 h3' (setOf_set _) (setOf_set _)).mono ?_
                   rintro e w4 ⟨A4, n4, c4, rfl, h4, hb4⟩))
              rw [meet_of] at h4
              have hbA4 := hb3.trans (hb4.mono hb3.size)
              go_roundw
              case rel => exact ⟨j + 1, n4, c4, A4, inter b iv, by omega, rfl, rfl, by go_num, h4, HG3, hBkA.below hbA4 (by simp; omega), hbxA.trans (hbA4.mono hbxA.size)⟩
              case measure => simp [intOf]; omega
          · have hje : j = n1 := by omega
            subst hje
            have HR : Hid (R = readI (acc ++ [b]) (qs.drop (i + 1))) := hide (by rw [HG.out, hG2.out, List.drop_of_length_le (by omega)]; rfl)
            clear hG2 HG
            go_wp2_with (go_at_call 101
                         refine (union_ins hUx.1 hb2 (setOf_set _) (setOf_set _)).mono ?_
                         rintro e w5 ⟨A5, n5, c5, rfl, h5, hb5⟩)
            rw [union_of] at h5
            go_roundw
            case rel => exact ⟨i + 1, n5, c5, A5, acc ++ [b], by omega, rfl, rfl, by go_num, h5, HR, hbw.trans (hb5.mono hbw.size)⟩
            case measure => simp [intOf]; omega
    · have hin : i = n := by omega
      subst hin
      have HR : Hid (R = .ok acc) := hide (by rw [hG.out, List.drop_of_length_le (by omega)]; rfl)
      clear hG H HS
      go_wp2
      try rw [Exit.noGoto_ret]
      go_ret2
      rw [HR.out]
      exact ⟨_, _, _, rfl, fun l hl => by injection hl with hl; rw [← hl]; exact hU, hb⟩
def MakesL (w : World) (t : Told) (e : Ending) (w' : World) : Prop :=
  ∃ A n c, e = .returned (.tuple #[.slice A n c, .int .i64 (toldAt t), .int .i64 (toldErr t)]) ∧ Need.InS w' 0 A n (toldSet t) ∧ Below w.heap.size w w'
set_option maxHeartbeats 1000000 in
set_option maxRecDepth 100000 in
theorem ReadL_any (l : List UInt8) (w : World) (hl : l.length ≤ 9223372036854775807) (hT : Tabs w) :
    Calls Tryz.prog 74 #[.string (str l)] w (MakesL w (told l)) := by
  unfold MakesL
  have hsz := str_size l
  by_cases h4 : 400 < l.length
  · have ht : told l = .long := by unfold told; rw [if_pos h4]
    have hs : 400 < (str l).size := by rw [hsz]; exact h4
    have hs2 : (str l).size ≤ 9223372036854775807 := by rw [hsz]; exact hl
    rw [ht]
    clear ht h4 hsz
    go_enter Tryz.func74, Tryz.ntmps74
    go_wp2
    go_ret3
    exact ⟨none, 0, 0, rfl, Need.insNil _ _, Below.refl _ _⟩
  · have hs : (str l).size ≤ 400 := by rw [hsz]; omega
    have Hc := hide (cut_any l w (by omega))
    have Hs := hide (cut_short l (by omega))
    have ht : Hid (told l = toldOf (readI [] (cutL l))) := hide (told_eq h4)
    generalize told l = T at *
    have HR := hide (fun A n c wx (h : PcIn wx wx.heap.size A n (cutL l)) (hn : n ≤ 1001) (hb : Below w.heap.size w wx) => readL_any (cutL l) A n c wx h Hs.out (by omega) (hT.below hb))
    clear hsz h4 Hs
    generalize readI [] (cutL l) = R at *
    cases R with
    | error p =>
      obtain rfl := ht.out
      have hw : wrongOf (.error p) = (p : Int) := rfl
      rw [hw] at HR
      have e0 : toldOf (.error p) = .form p := rfl
      rw [e0]
      go_enter Tryz.func74, Tryz.ntmps74
      go_wp2_with (first
        | (go_at_call 87
           refine Hc.out.mono ?_
           rintro e w1 ⟨A1, n1, c1, rfl, h1, hn1, hb1⟩)
        | (go_at_call 86
           refine (HR.out _ _ _ _ h1 hn1 hb1).mono ?_
           rintro e w2 ⟨A2, n2, c2, rfl, h2, hb2⟩))
      go_ret3
      exact ⟨none, 0, 0, rfl, Need.insNil _ _, hb1.trans (hb2.mono hb1.size)⟩
    | ok acc =>
      obtain rfl := ht.out
      have hw : wrongOf (.ok acc) = -1 := rfl
      rw [hw] at HR
      have e0 : toldOf (.ok acc) = if 6 < (setOf acc).length then .long else .ok (setOf acc) := rfl
      rw [e0]
      have hlen := setOf_len acc
      by_cases h6 : 6 < (setOf acc).length
      · rw [if_pos h6]
        go_enter Tryz.func74, Tryz.ntmps74
        go_wp2_with (first
          | (go_at_call 87
             refine Hc.out.mono ?_
             rintro e w1 ⟨A1, n1, c1, rfl, h1, hn1, hb1⟩)
          | (go_at_call 86
             refine (HR.out _ _ _ _ h1 hn1 hb1).mono ?_
             rintro e w2 ⟨A2, n2, c2, rfl, h2, hb2⟩
             have h2' := h2 acc rfl
             have hl2 : 6 < n2 := by rw [SpOn.len h2'.1]; exact h6))
        go_ret3
        exact ⟨none, 0, 0, rfl, Need.insNil _ _, hb1.trans (hb2.mono hb1.size)⟩
      · rw [if_neg h6]
        go_enter Tryz.func74, Tryz.ntmps74
        go_wp2_with (first
          | (go_at_call 87
             refine Hc.out.mono ?_
             rintro e w1 ⟨A1, n1, c1, rfl, h1, hn1, hb1⟩)
          | (go_at_call 86
             refine (HR.out _ _ _ _ h1 hn1 hb1).mono ?_
             rintro e w2 ⟨A2, n2, c2, rfl, h2, hb2⟩
             have h2' := h2 acc rfl
             have hl2 : ¬ 6 < n2 := by rw [SpOn.len h2'.1]; exact h6))
        go_ret3
        exact ⟨_, _, _, rfl, h2', hb1.trans (hb2.mono hb1.size)⟩
end Go.Proofs.YtmcpdcfeappokaaGreatDoor.Rule
