/-
  The contract of the document's Read: what a text is read as. No condition beyond what a text's length may be.
-/
import Derived.Test.YtcgcgjcjgpcfiaaGreatDoorRuleRefPiece
namespace Go.Proofs.YtcgcgjcjgpcfiaaGreatDoor.Rule
open Go.RowKit Go.Lib Go.Proofs.YtcgcgjcjgpcfiaaGreatDoor.Span
set_option linter.unusedVariables false
/-- The pieces from a place on, where no mark stands between it and the place at hand. -/
theorem seg_drop (l : List UInt8) {b i : Nat} (h : b ≤ i) : l.drop b = seg l b i ++ l.drop i := by
  unfold seg
  have e : l.drop i = (l.drop b).drop (i - b) := by rw [List.drop_drop]; congr 1; omega
  rw [e, List.take_append_drop]
theorem seg_snoc (l : List UInt8) {b i : Nat} (h : b ≤ i) (hi : i < l.length) : seg l b (i + 1) = seg l b i ++ [l[i]] := by
  have e : seg l i (i + 1) = [l[i]] := by
    unfold seg
    rw [Nat.add_sub_cancel_left, List.drop_eq_getElem_cons hi]
    rfl
  rw [← e, seg_more l h (by omega)]
theorem pieces_mark (l : List UInt8) {b i : Nat} (h : b ≤ i) (hi : i < l.length) (hc : l[i] = 124) (hn : ∀ c ∈ seg l b i, c ≠ 124) :
    go (l.drop b) b [] [] = (gow (seg l b i) b [] [], b + (seg l b i).length) :: go (l.drop (i + 1)) (i + 1) [] [] := by
  have e : l.drop b = seg l b i ++ 124 :: l.drop (i + 1) := by rw [seg_drop l h, List.drop_eq_getElem_cons hi, hc]
  rw [e, go_piece _ _ _ _ _ hn]
  have hl := seg_len l h (by omega)
  simp only [List.length_nil, Nat.add_zero]
  congr 2; omega
theorem pieces_end (l : List UInt8) {b : Nat} (h : b ≤ l.length) (hn : ∀ c ∈ seg l b l.length, c ≠ 124) : go (l.drop b) b [] [] = [(gow (seg l b l.length) b [] [], b + (seg l b l.length).length)] := by
  have e : l.drop b = seg l b l.length := by rw [seg_drop l h]; simp
  conv => lhs; rw [e]
  rw [go_last _ _ _ _ hn]
  simp
theorem setOf_snoc (acc : List S) (iv : S) : unionS (setOf acc) (setOf [iv]) = setOf (acc ++ [iv]) := union_of acc [iv]
theorem read_ok {acc : List S} {q : Pc} {r : List Pc} {iv : S} (h : pieceI q = .ok iv) : readI acc (q :: r) = readI (acc ++ [iv]) r := by rw [readI_step, h]
theorem read_err {acc : List S} {q : Pc} {r : List Pc} {p : Nat} (h : pieceI q = .error p) : readI acc (q :: r) = .error p := by rw [readI_step, h]
set_option maxHeartbeats 4000000 in
set_option maxRecDepth 100000 in
theorem refRead_any (l : List UInt8) (w : World) (hl : l.length ≤ 9223372036854775807) :
    Calls Tryz.prog 6 #[.string (str l)] w (MakesR w (told l)) := by
  unfold MakesR
  have hsz := str_size l
  by_cases h4 : 400 < l.length
  · have ht : told l = .long := by unfold told; rw [if_pos h4]
    have hs : 400 < (str l).size := by rw [hsz]; exact h4
    have hs2 : (str l).size ≤ 9223372036854775807 := by rw [hsz]; exact hl
    rw [ht]
    clear ht h4 hsz
    go_enter Tryz.func6, Tryz.ntmps6
    go_wp2
    go_ret3
    exact ⟨none, 0, 0, rfl, SpIn.nil _ _ _, Below.refl _ _⟩
  · have h4' : l.length ≤ 400 := by omega
    have hT : Hid (told l = toldOf (readI [] (cutL l))) := hide (told_eq h4)
    obtain ⟨R, hR⟩ : ∃ R, R = readI [] (cutL l) := ⟨_, rfl⟩
    rw [← hR] at hT
    have H0 : Hid (R = readI [] (go (l.drop 0) 0 [] [])) := hide (by rw [hR]; rfl)
    clear hR h4 hl
    generalize told l = T at *
    go_enter Tryz.func6, Tryz.ntmps6
    go_wp2
    go_loopw [5, 6, 7] (fun u f i wr => ∃ (k b m c : Nat) (B : Option Addr) (acc : List S), ((k ≤ l.length ∧ Hid (R = readI acc (go (l.drop b) b [] [])) ∧ Hid (∀ z ∈ seg l b k, z ≠ 124)) ∨ (k = l.length + 1 ∧ Hid (R = .ok acc))) ∧ u = .slice B m c ∧ SpOn wr B m (setOf acc) ∧ f = .int .i64 (b : Int) ∧ i = .int .i64 (k : Int) ∧ b ≤ k ∧ acc.length ≤ k ∧ Below w.heap.size w wr) (fun _ _ i _ => l.length + 2 - (intOf i).toNat)
    case atStart => exact ⟨0, 0, 0, 0, none, [], .inl ⟨by omega, H0, hide (fun z hz => by rw [seg_self] at hz; cases hz)⟩, rfl, by rw [setOf_nil]; exact SpIn.nil _ _ _, rfl, rfl, by omega, by simp, Below.refl _ _⟩
    case round =>
      obtain ⟨k, b, m, c, B, acc, hor, rfl, hU, rfl, rfl, hbk, hak, hbw⟩ := hrel
      clear H0
      have hlen := setOf_len acc
      have hm : m ≤ 1000 ∧ m ≤ acc.length := by
        have := hU.len
        rcases hor with ⟨h, _⟩ | ⟨h, _⟩ <;> omega
      rcases hor with ⟨hk, hG, hN⟩ | ⟨rfl, hG⟩
      · have hsl : b ≤ k → ∀ Wx : World, (Instr.slice 9 (.string (str l)) (some (.int .i64 (b : Int))) (some (.int .i64 (k : Int))) none).run Tryz.prog Wx = .ok (.string (str (seg l b k))) Wx := fun hb Wx => by
          rw [run_slice_string Wx 9 (str l) .i64 .i64 (b : Int) (k : Int) Tryz.underlying9 (by omega) (by omega) (by rw [str_size]; omega), Int.toNat_natCast, Int.toNat_natCast, str_extract]
          rfl
        have hsl := hsl hbk
        have hgl := seg_len l hbk hk
        have HP := hide (fun wx => piece_any (seg l b k) b wx (by omega) (by omega))
        by_cases hc : k < l.length
        · obtain ⟨z, hz⟩ : ∃ z, l[k]? = some z := ⟨l[k], List.getElem?_eq_getElem hc⟩
          obtain ⟨hi, hy⟩ := str_get l k z hz
          have hzz : l[k] = z := (List.getElem?_eq_some_iff.1 hz).2
          clear hz
          by_cases hz : z = 124
          · have yz : ((z.toNat : Int) != 124) = false := by rw [hz]; rfl
            have HG := hide (hG.out.trans (by rw [pieces_mark l hbk hc (hzz.trans hz) hN.out]))
            clear hG hN hzz hz hgl hlen
            generalize seg l b k = x at *
            generalize hq : pieceI (gow x b [] [], b + x.length) = P at *
            have Hq := hide hq
            clear hq
            cases P with
            | error p =>
              have e1 : wrongP (.error p) = (p : Int) := rfl
              rw [e1] at HP
              have HR : Hid (R = .error p) := hide (by rw [HG.out]; exact read_err Hq.out)
              clear HG Hq e1
              go_wp2_with (go_at_call 13
                           refine (HP.out _).mono ?_
                           rintro e w2 ⟨A2, n2, c2, rfl, h2, hb2⟩)
              go_ret3
              rw [hT.out, HR.out]
              exact ⟨none, 0, 0, rfl, SpIn.nil _ _ _, hbw.trans (hb2.mono hbw.size)⟩
            | ok iv =>
              have e1 : wrongP (.ok iv) = -1 := rfl
              rw [e1] at HP
              have HR : Hid (R = readI (acc ++ [iv]) (go (l.drop (k + 1)) (k + 1) [] [])) := hide (by rw [HG.out]; exact read_ok Hq.out)
              clear HG Hq e1
              have l2 := setOf_len [iv]
              go_wp2_with (first
                | (go_at_call 13
                   refine (HP.out _).mono ?_
                   rintro e w2 ⟨A2, n2, c2, rfl, h2, hb2⟩
                   have h2' := h2 iv rfl
                   have hU2 := hU.on hb2
                   have lc : n2 ≤ 1000 := by have := h2'.len; simp at l2; omega)
                | (go_at_call 14
                   refine (refUnion_on hU2 h2' hm.1 lc).mono ?_
                   rintro e w3 ⟨A3, n3, c3, rfl, h3, hb3⟩))
              rw [setOf_snoc] at h3
              have hb23 := hb2.trans (hb3.mono hb2.size)
              go_roundw
              case rel => exact ⟨k + 1, k + 1, n3, c3, A3, acc ++ [iv], .inl ⟨by omega, HR, hide (fun z hz => by rw [seg_self] at hz; cases hz)⟩, rfl, h3, by go_num, by go_num, by omega, by simp; omega, hbw.trans (hb23.mono hbw.size)⟩
              case measure => simp [intOf]; omega
          · have yz : ((z.toNat : Int) != 124) = true := by
              have := ne8 (n := 124) 124 rfl hz
              simpa [bne] using this
            have HN := hide (fun y (hy : y ∈ seg l b (k + 1)) => show y ≠ 124 by
              rw [seg_snoc l hbk hc] at hy
              rcases List.mem_append.1 hy with hy | hy
              · exact hN.out y hy
              · rw [List.mem_singleton.1 hy]; exact fun e => hz (hzz.symm.trans e))
            clear hN hzz hz hgl hlen HP hsl
            go_wp2
            go_roundw
            case rel => exact ⟨k + 1, b, m, c, B, acc, .inl ⟨by omega, hG, HN⟩, rfl, hU, rfl, by go_num, by omega, by omega, hbw⟩
            case measure => simp [intOf]; omega
        · have hke : Hid (l.length = k) := hide (by omega)
          have HG : Hid (R = readI acc [(gow (seg l b k) b [] [], b + (seg l b k).length)]) := hide (by
            rw [hG.out]
            have := pieces_end l (b := b) (by have := hke.out; omega) (by rw [hke.out]; exact hN.out)
            rw [hke.out] at this
            rw [this])
          clear hG hN hgl hlen
          generalize seg l b k = x at *
          generalize hq : pieceI (gow x b [] [], b + x.length) = P at *
          have Hq := hide hq
          clear hq
          cases P with
          | error p =>
            have e1 : wrongP (.error p) = (p : Int) := rfl
            rw [e1] at HP
            have HR : Hid (R = .error p) := hide (by rw [HG.out]; exact read_err Hq.out)
            clear HG Hq e1
            go_wp2_with (go_at_call 13
                         refine (HP.out _).mono ?_
                         rintro e w2 ⟨A2, n2, c2, rfl, h2, hb2⟩)
            go_ret3
            rw [hT.out, HR.out]
            exact ⟨none, 0, 0, rfl, SpIn.nil _ _ _, hbw.trans (hb2.mono hbw.size)⟩
          | ok iv =>
            have e1 : wrongP (.ok iv) = -1 := rfl
            rw [e1] at HP
            have HR : Hid (R = .ok (acc ++ [iv])) := hide (by rw [HG.out]; exact read_ok Hq.out)
            clear HG Hq e1
            have l2 := setOf_len [iv]
            go_wp2_with (first
              | (go_at_call 13
                 refine (HP.out _).mono ?_
                 rintro e w2 ⟨A2, n2, c2, rfl, h2, hb2⟩
                 have h2' := h2 iv rfl
                 have hU2 := hU.on hb2
                 have lc : n2 ≤ 1000 := by have := h2'.len; simp at l2; omega)
              | (go_at_call 14
                 refine (refUnion_on hU2 h2' hm.1 lc).mono ?_
                 rintro e w3 ⟨A3, n3, c3, rfl, h3, hb3⟩))
            rw [setOf_snoc] at h3
            have hb23 := hb2.trans (hb3.mono hb2.size)
            go_roundw
            case rel => exact ⟨k + 1, k + 1, n3, c3, A3, acc ++ [iv], .inr ⟨by omega, HR⟩, rfl, h3, by go_num, by go_num, by omega, by simp; omega, hbw.trans (hb23.mono hbw.size)⟩
            case measure => simp [intOf]; omega
      · have hT2 : Hid (T = if 6 < (setOf acc).length then .long else .ok (setOf acc)) := hide (by rw [hT.out, hG.out]; rfl)
        clear hG hT hlen
        by_cases h6 : 6 < (setOf acc).length
        · have h6m : 6 < m := by rw [hU.len]; exact h6
          rw [if_pos h6] at hT2
          clear h6
          go_wp2
          go_ret3
          rw [hT2.out]
          exact ⟨none, 0, 0, rfl, SpIn.nil _ _ _, hbw⟩
        · have h6m : ¬ 6 < m := by rw [hU.len]; exact h6
          rw [if_neg h6] at hT2
          clear h6
          go_wp2
          go_ret3
          rw [hT2.out]
          exact ⟨_, _, _, rfl, hU, hbw⟩
end Go.Proofs.YtcgcgjcjgpcfiaaGreatDoor.Rule
