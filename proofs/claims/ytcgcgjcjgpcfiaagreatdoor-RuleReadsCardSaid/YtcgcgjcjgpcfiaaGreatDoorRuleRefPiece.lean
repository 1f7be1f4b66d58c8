/-
  The contracts of the document's piece and Read: what a text is read as. Condition: at most 1,000 bytes.
-/
import Derived.Test.YtcgcgjcjgpcfiaaGreatDoorRuleRefWords
namespace Go.Proofs.YtcgcgjcjgpcfiaaGreatDoor.Rule
open Go.RowKit Go.Lib Go.Proofs.YtcgcgjcjgpcfiaaGreatDoor.Span
set_option linter.unusedVariables false
theorem refAll_on (w : World) : Calls Tryz.prog 33 #[] w (Makes w (setOf [(0, 1000000000)])) := by rw [setOf_all]; exact makes_of' (refAll_any w)
def wrongP : Except Nat S → Int
  | .error p => (p : Int)
  | .ok _ => -1
theorem gow_len (x : List UInt8) : ∀ (b : Nat) (cur : List UInt8) (ws : List W) (N : Nat), cur.length + x.length ≤ N → (∀ v ∈ ws, v.1.length ≤ N) → ∀ v ∈ gow x b cur ws, v.1.length ≤ N := by
  induction x with
  | nil => intro b cur ws N h1 h2; exact push_short (by simpa using h1) h2
  | cons c x ih =>
    intro b cur ws N h1 h2
    simp only [List.length_cons] at h1
    rw [gow]
    split
    · exact ih _ _ _ N (by simp only [List.length_nil]; omega) (push_short (by omega) h2)
    · exact ih _ _ _ N (by simp only [List.length_append, List.length_singleton]; omega) h2
theorem end_pc {A : Option Addr} {n c : Nat} {x y : Int} (h : x = y) : Ending.returned (.tuple #[.slice A n c, .int .i64 x]) = .returned (.tuple #[.slice A n c, .int .i64 y]) := by rw [h]
theorem toOk {e : Except Nat S} {iv : S} (h : e = .ok iv) : wrongP e = -1 := by rw [h]; rfl
set_option maxHeartbeats 3000000 in
set_option maxRecDepth 100000 in
theorem piece_any (x : List UInt8) (a : Nat) (w : World) (hx : x.length ≤ 1000) (ha : a ≤ 1000) :
    Calls Tryz.prog 13 #[.string (str x), .int .i64 (a : Int)] w fun e w' => ∃ A n c, e = .returned (.tuple #[.slice A n c, .int .i64 (wrongP (pieceI (gow x a [] [], a + x.length)))]) ∧ (∀ iv, pieceI (gow x a [] [], a + x.length) = .ok iv → SpOn w' A n (setOf [iv])) ∧ Below w.heap.size w w' := by
  obtain ⟨P, hP⟩ : ∃ P, P = pieceI (gow x a [] [], a + x.length) := ⟨_, rfl⟩
  rw [← hP]
  have Hw := hide (words_any x a w hx ha)
  have hsh := hide (gow_len x a [] [] 1000 (by simpa using hx) (fun v hv => by cases hv))
  have hsz := str_size x
  generalize gow x a [] [] = ws at *
  have H0 : Hid (P = pieceI (ws, a + x.length)) := hide hP
  clear hP
  go_enter Tryz.func13, Tryz.ntmps13
  go_upto_region 2 with (go_at_call 32
                         refine Hw.out.mono ?_
                         rintro e w1 ⟨A1, n1, c1, rfl, hW, hn1, hb1⟩)
  have hwl : ws.length = n1 := hW.1
  have HW := hide hW
  have hbs1 := hb1.size
  by_cases h0 : n1 = 0
  · subst h0
    have HP : Hid (P = .error (a + x.length)) := hide (by rw [H0.out, List.eq_nil_of_length_eq_zero hwl]; rfl)
    clear H0 HW hW Hw hsh
    go_wp2
    go_ret2
    rw [HP.out]
    exact ⟨none, 0, 0, end_pc (by show _ = (((a + x.length : Nat) : Int)); omega), (fun iv h => by cases h), hb1⟩
  · have hne : ws ≠ [] := fun e => h0 (by rw [← hwl, e]; rfl)
    have hn0 : ((n1 : Int) == 0) = false := beq_eq_false_iff_ne.2 (by omega)
    have HP : Hid (P = meetI (decide (ws.length = 1)) (0, 1000000000) ws) := hide (by rw [H0.out]; unfold pieceI; rw [if_neg hne])
    clear H0 Hw hne
    by_cases h1 : n1 = 1
    · subst h1
      obtain ⟨ad, q, rfl, hbl, hq, p1, p2⟩ := hW.at_ (show 0 < 1 by omega)
      rw [Nat.zero_mul, add_zero'] at p1 p2
      obtain ⟨t, tp⟩ := q
      have hws : ws = [(t, tp)] := by
        match ws, hwl, hq with
        | [v], _, hq => simp at hq; rw [hq]
      have e1 := eqb t [97, 110, 121]
      have e2 := eqb t [110, 111, 110, 101]
      simp only [] at p1 p2
      by_cases ht : t = anyL
      · rw [decide_eq_true (show t = [97, 110, 121] from ht)] at e1
        have HR : Hid (P = .ok (0, 1000000000)) := hide (by rw [HP.out, hws, ht]; rfl)
        clear HP hws ht e2 HW hW hsh
        go_wp2_with (go_at_call 33
                     refine (refAll_on _).mono ?_
                     rintro e w2 ⟨A2, n2, c2, rfl, h2, hb2⟩)
        go_ret2
        rw [HR.out]
        exact ⟨_, _, _, rfl, (fun iv h => by injection h with h; rw [← h]; exact h2), hb1.trans (hb2.mono hb1.size)⟩
      · rw [decide_eq_false (show ¬ t = [97, 110, 121] from ht)] at e1
        by_cases hn : t = noneL
        · rw [decide_eq_true (show t = [110, 111, 110, 101] from hn)] at e2
          have HR : Hid (P = .ok (0, 0)) := hide (by rw [HP.out, hws, hn]; rfl)
          clear HP hws ht hn HW hW hsh
          go_wp2
          go_ret2
          rw [HR.out]
          exact ⟨none, 0, 0, rfl, (fun iv h => by injection h with h; rw [← h, setOf_none]; exact SpIn.nil _ _ _), hb1⟩
        · rw [decide_eq_false (show ¬ t = [110, 111, 110, 101] from hn)] at e2
          have hmn : Hid (∀ v ∈ ws, mean (decide (ws.length = 1)) v.1 = cmpI v.1) := hide (fun v hv => by
            rw [hws] at hv
            rw [List.mem_singleton.1 hv]
            exact mean_of _ ht hn)
          generalize decide (ws.length = 1) = F at *
          clear hws ht hn hW hq
          go_wp2_with (go_at_call 33
                       refine (refAll_on _).mono ?_
                       rintro e w2 ⟨A2, n2, c2, rfl, h2, hb2⟩)
          clear p1 p2 e1 e2 hbl
          go_loopw [7, 8] (fun u i wr => ∃ (j m k : Nat) (B : Option Addr) (b : S), j ≤ 1 ∧ u = .slice B m k ∧ i = .int .i64 (j : Int) ∧ SpOn wr B m (setOf [b]) ∧ Hid (P = meetI F b (ws.drop j)) ∧ Below w1.heap.size w1 wr) (fun _ i _ => 1 - (intOf i).toNat)
          case atStart => exact ⟨0, n2, c2, A2, (0, 1000000000), by omega, rfl, rfl, h2, HP, hb2⟩
          case round =>
            clear h2 hb2 HP
            obtain ⟨j, m, k, B, b, hj, rfl, rfl, hU, hG, hbx⟩ := hrel
            have hbw := hb1.trans (hbx.mono hbs1)
            by_cases hjl : j < 1
            · obtain ⟨ad', v, hA, hbl2, hv, q1, q2⟩ := (HW.out.below hbx).at_ hjl
              injection hA with hA
              subst hA
              have hvs := hsh.out v (List.mem_of_getElem? hv)
              have hvm := hmn.out v (List.mem_of_getElem? hv)
              have hdr := drop_at hv
              have HG := hide (hG.out.trans (by rw [hdr, meetI_step, hvm]))
              obtain ⟨vt, vp⟩ := v
              simp only [] at q1 q2 hvs HG
              have HM := hide (fun wx => refCmp_any vt wx (by omega))
              clear hdr hG hv hvm
              unfold MakesB at HM
              cases hm : cmpI vt with
              | none =>
                rw [hm] at HM HG
                have HR : Hid (P = .error vp) := HG
                clear HG hm
                go_upto_region 14 with (go_at_call 8
                                        refine (HM.out _).mono ?_
                                        rintro e w3 ⟨A3, n3, c3, rfl, h3, hb3⟩
                                        have x2 := (hb3.cell (p := ⟨(ad.add (j * 2)).block, (ad.add (j * 2)).off + 1, none⟩) (by simp only [block_of_add]; have := hbx.size; omega)).trans q2)
                go_quiet (fail)
                go_wp2_with fail
                go_ret2
                rw [HR.out]
                exact ⟨none, 0, 0, rfl, (fun iv h => by cases h), below_drewN (hbw.trans (hb3.mono hbw.size)) _⟩
              | some iv =>
                rw [hm] at HM HG
                have HG3 : Hid (P = meetI F (inter b iv) (ws.drop (j + 1))) := HG
                clear HG hm
                have l1 := setOf_len [b]
                have l2 := setOf_len [iv]
                have lb : m ≤ 1000 := by have := hU.len; simp at l1; omega
                clear l1
                go_wp2_with (first
                  | (go_at_call 8
                     refine (HM.out _).mono ?_
                     rintro e w3 ⟨A3, n3, c3, rfl, h3, hb3⟩
                     have hU3 := hU.on hb3
                     have h3' : SpOn w3 A3 n3 (setOf [iv]) := h3
                     have lc : n3 ≤ 1000 := by have := h3'.len; simp at l2; omega)
                  | (go_at_call 34
                     refine (refMeet_on hU3 h3' lb lc).mono ?_
                     rintro e w4 ⟨A4, n4, c4, rfl, h4, hb4⟩))
                rw [meet_of] at h4
                have hb34 := hb3.trans (hb4.mono hb3.size)
                go_roundw
                case rel => exact ⟨j + 1, n4, c4, A4, inter b iv, by omega, rfl, by go_num, h4, HG3, hbx.trans (hb34.mono hbx.size)⟩
                case measure => simp [intOf]; omega
            · have hje : j = 1 := by omega
              subst hje
              have HR : Hid (P = .ok b) := hide (by rw [hG.out, List.drop_of_length_le (by omega)]; rfl)
              clear hG
              go_wp2
              go_ret2
              rw [HR.out]
              exact ⟨_, _, _, rfl, (fun iv h => by injection h with h; rw [← h]; exact hU), hbw⟩
    · have hn1' : ((n1 : Int) == 1) = false := beq_eq_false_iff_ne.2 (by omega)
      have hmn : Hid (∀ v ∈ ws, mean (decide (ws.length = 1)) v.1 = cmpI v.1) := hide (fun v _ => by
        rw [decide_eq_false (by omega)]
        unfold mean
        simp)
      generalize decide (ws.length = 1) = F at *
      clear hW
      go_wp2_with (go_at_call 33
                   refine (refAll_on _).mono ?_
                   rintro e w2 ⟨A2, n2, c2, rfl, h2, hb2⟩)
      skip
      go_loopw [7, 8] (fun u i wr => ∃ (j m k : Nat) (B : Option Addr) (b : S), j ≤ n1 ∧ u = .slice B m k ∧ i = .int .i64 (j : Int) ∧ SpOn wr B m (setOf [b]) ∧ Hid (P = meetI F b (ws.drop j)) ∧ Below w1.heap.size w1 wr) (fun _ i _ => n1 - (intOf i).toNat)
      case atStart => exact ⟨0, n2, c2, A2, (0, 1000000000), by omega, rfl, rfl, h2, HP, hb2⟩
      case round =>
        clear h2 hb2 HP
        obtain ⟨j, m, k, B, b, hj, rfl, rfl, hU, hG, hbx⟩ := hrel
        have hbw := hb1.trans (hbx.mono hbs1)
        by_cases hjl : j < n1
        · obtain ⟨ad, v, rfl, hbl2, hv, q1, q2⟩ := (HW.out.below hbx).at_ hjl
          have hvs := hsh.out v (List.mem_of_getElem? hv)
          have hvm := hmn.out v (List.mem_of_getElem? hv)
          have hdr := drop_at hv
          have HG := hide (hG.out.trans (by rw [hdr, meetI_step, hvm]))
          obtain ⟨vt, vp⟩ := v
          simp only [] at q1 q2 hvs HG
          have HM := hide (fun wx => refCmp_any vt wx (by omega))
          clear hdr hG hv hvm
          unfold MakesB at HM
          cases hm : cmpI vt with
          | none =>
            rw [hm] at HM HG
            have HR : Hid (P = .error vp) := HG
            clear HG hm
            go_upto_region 14 with (go_at_call 8
                                    refine (HM.out _).mono ?_
                                    rintro e w3 ⟨A3, n3, c3, rfl, h3, hb3⟩
                                    have x2 := (hb3.cell (p := ⟨(ad.add (j * 2)).block, (ad.add (j * 2)).off + 1, none⟩) (by simp only [block_of_add]; have := hbx.size; omega)).trans q2)
            go_quiet (fail)
            go_wp2_with fail
            go_ret2
            rw [HR.out]
            exact ⟨none, 0, 0, rfl, (fun iv h => by cases h), below_drewN (hbw.trans (hb3.mono hbw.size)) _⟩
          | some iv =>
            rw [hm] at HM HG
            have HG3 : Hid (P = meetI F (inter b iv) (ws.drop (j + 1))) := HG
            clear HG hm
            have l1 := setOf_len [b]
            have l2 := setOf_len [iv]
            have lb : m ≤ 1000 := by have := hU.len; simp at l1; omega
            clear l1
            go_wp2_with (first
              | (go_at_call 8
                 refine (HM.out _).mono ?_
                 rintro e w3 ⟨A3, n3, c3, rfl, h3, hb3⟩
                 have hU3 := hU.on hb3
                 have h3' : SpOn w3 A3 n3 (setOf [iv]) := h3
                 have lc : n3 ≤ 1000 := by have := h3'.len; simp at l2; omega)
              | (go_at_call 34
                 refine (refMeet_on hU3 h3' lb lc).mono ?_
                 rintro e w4 ⟨A4, n4, c4, rfl, h4, hb4⟩))
            rw [meet_of] at h4
            have hb34 := hb3.trans (hb4.mono hb3.size)
            go_roundw
            case rel => exact ⟨j + 1, n4, c4, A4, inter b iv, by omega, rfl, by go_num, h4, HG3, hbx.trans (hb34.mono hbx.size)⟩
            case measure => simp [intOf]; omega
        · have hje : j = n1 := by omega
          subst hje
          have HR : Hid (P = .ok b) := hide (by rw [hG.out, List.drop_of_length_le (by omega)]; rfl)
          clear hG
          go_wp2
          go_ret2
          rw [HR.out]
          exact ⟨_, _, _, rfl, (fun iv h => by injection h with h; rw [← h]; exact hU), hbw⟩
end Go.Proofs.YtcgcgjcjgpcfiaaGreatDoor.Rule
