/-
  The contract of the program's cut: a text's pieces. Condition: at most 1,000 bytes.
-/
import Derived.Test.YtcgcgjcjgpcfiaaGreatDoorRuleCutM
import Derived.Test.YtcgcgjcjgpcfiaaGreatDoorRuleCells
namespace Go.Proofs.YtcgcgjcjgpcfiaaGreatDoor.Rule
open Go.RowKit Go.Lib Go.Proofs.YtcgcgjcjgpcfiaaGreatDoor.Label Go.Proofs.YtcgcgjcjgpcfiaaGreatDoor.Span
set_option linter.unusedVariables false
theorem info_word : (Tryz.prog.info? 57).map (fun i => (i.zero, i.size, i.bytes)) = some (some (.agg #[.string ByteArray.empty, .int .i64 0]), 2, 24) := by kernel_rfl
theorem info_piece : (Tryz.prog.info? 55).map (fun i => (i.zero, i.size, i.bytes)) = some (some (.agg #[.slice none 0 0, .int .i64 0]), 2, 32) := by kernel_rfl
theorem pos_of {w : World} {k : Nat} {s : ByteArray} {p : Nat} (h : w.heap[k]? = some (.stringIter s p)) : w.iterPos k = p := by simp [World.iterPos, h]
set_option maxHeartbeats 2000000 in
set_option maxRecDepth 100000 in
theorem cut_any (l : List UInt8) (w : World) (hl : l.length ≤ 1000) :
    Calls Tryz.prog 12 #[.string (str l)] w fun e w' => ∃ A n c, e = .returned (.slice A n c) ∧ PcIn w' w'.heap.size A n (cutL l) ∧ n ≤ 1001 ∧ Below w.heap.size w w' := by
  obtain ⟨i0, hi0, hz0, hz1, hz2⟩ := info_parts info_word
  obtain ⟨j0, hj0, hy0, hy1, hy2⟩ := info_parts info_piece
  obtain ⟨L, hL⟩ : ∃ L, L = l ++ [124] := ⟨_, rfl⟩
  have hLl : L.length = l.length + 1 := by rw [hL]; simp
  have hT : str l ++ ⟨#[124]⟩ = str L := by rw [hL]; exact str_append l [124]
  have hsz : (str L).size = l.length + 1 := by rw [str_size, hLl]
  have hls : (str l).size ≤ 1000 := by rw [str_size]; exact hl
  have hTT : 55 ≠ 57 := by decide
  have Hend := hide (fun ps ws b (h : cutL l ++ [([], l.length + 1)] = ps ++ goAt L (l.length + 1) b ws) hb => by rw [hL] at h; exact @cut_end l ps ws b h hb)
  have H0 : Hid (cutL l ++ [([], l.length + 1)] = goAt L 0 0 []) := hide (by rw [goAt_zero, hL, cut_mark])
  have Hseg := hide (fun b e (h : b ≤ e) (he : e ≤ l.length) => by have := @seg_front l [124] b e h he; rw [← hL] at this; exact this)
  clear hL
  go_enter Tryz.func12, Tryz.ntmps12
  go_wp2
  go_loopw [3, 4, 5] (fun u v x wr => ∃ (pos b nP nW : Nat) (rs : List (Value × Nat)) (ps : List Pc) (ws : List W), Cut w 55 57 (str L) wr u v nP nW rs ps ws pos ∧ x = .int .i64 (b : Int) ∧ b ≤ pos ∧ pos ≤ l.length + 1 ∧ Hid (cutL l ++ [([], l.length + 1)] = ps ++ goAt L pos b ws) ∧ nP ≤ pos ∧ nW ≤ pos) (fun _ _ _ wr => l.length + 1 - wr.iterPos w.heap.size)
  case atStart => exact ⟨0, 0, 0, 0, [], [], [], pieces_start w _ _ _, rfl, by omega, by omega, H0, by omega, by omega⟩
  case round =>
    obtain ⟨pos, b, nP, nW, rs, ps, ws, hC, rfl, hbp, hpl, hG, hnP, hnW⟩ := hrel
    by_cases hlt : pos < l.length + 1
    · have hp : pos < (str L).size := by omega
      have hpL : pos < L.length := by omega
      have hnx : ∀ ty, (Instr.next (.pointer (some ⟨w.heap.size, 0, none⟩)) true ty).run Tryz.prog wr = .ok (.tuple #[.bool true, .int .i64 pos, .int .i32 (rn (str L) pos)]) (wr.iterAt w.heap.size (str L) (pos + wd (str L) pos)) := fun ty => run_next_any_at wr w.heap.size (str L) pos ty hC.I hp
      have hwd := wd_pos (str L) pos hp
      have hwl := wd_le (str L) pos hp
      have hrl := rn_le (str L) pos
      have HC := hide (hC.iter (pos + wd (str L) pos))
      have hmeas := pos_of hC.I
      have hlt0 := hC.lt
      obtain ⟨Wr, hW⟩ : ∃ Wr, Wr = wr.iterAt w.heap.size (str L) (pos + wd (str L) pos) := ⟨_, rfl⟩
      rw [← hW] at hnx HC
      have hWs := HC.out.lt
      obtain ⟨Aw, cw, rfl, _⟩ := own_form hC.Wd
      obtain ⟨Ap, cp, rfl, _⟩ := own_form hC.P
      clear hW hC
      by_cases hX : rn (str L) pos = 32 ∨ rn (str L) pos = 124
      · have hbl : pos ≤ l.length := by omega
        have hsg := Hseg.out b pos hbp hbl
        have hnil := seg_nil l hbp hbl
        have hsl : ∀ Wx : World, b ≤ pos → (Instr.slice 9 (.string (str l)) (some (.int .i64 (b : Int))) (some (.int .i64 (pos : Int))) none).run Tryz.prog Wx = .ok (.string (str (seg l b pos))) Wx := fun Wx hb => by
          rw [run_slice_string Wx 9 (str l) .i64 .i64 (b : Int) (pos : Int) Tryz.underlying9 (by omega) (by omega) (by rw [str_size]; omega), Int.toNat_natCast, Int.toNat_natCast, str_extract]
          rfl
        by_cases hlt2 : b < pos
        · have hne : seg l b pos ≠ [] := fun e => by have := hnil.1 e; omega
          have hpush : ∀ vs : List W, push (seg L b pos) vs b = vs ++ [(seg l b pos, b)] := fun vs => by rw [hsg]; simp [push, hne]
          have hsl := fun Wx => hsl Wx hbp
          rcases hX with hX | hX
          · obtain ⟨e1, e2⟩ := at_blank L hpL hX
            have HG := hide (goAt_blank L ws hbp hpL e2)
            rw [hpush] at HG
            rw [hX] at hnx
            rw [e1] at HC
            clear hpush hne hnil hsg hX e1 e2 Hseg
            generalize seg l b pos = x at *
            go_wp2_with (first
            | (at_builtin
               refine wpList_append_any _ rfl (.tmp 24) (.tmp 31) _ rfl w.heap.size 57 i0 _ 2 24 Tryz.underlying53 hi0 hz0 hz1 hz2 rfl (by omega) _ _ _ rfl
                 ((HC.out.alloc _).Wd) _ _ 1 _ _ rfl (reads_word _ _ _ _ _ rfl) (wcs_one _) (by unfold maxLen; omega) (by omega) (by simp; omega) ?_
               intro v1 w1 hown1 hg1 hat1
               rw [← wcs_append] at hown1
               have HC1 := hide ((HC.out.alloc _).word hTT hown1 hg1 hat1)
               have hW1 := HC1.out.lt
               obtain ⟨A1, c1, rfl, _⟩ := own_form hown1
               clear hg1 hat1 hown1))
            go_roundw
            case rel => exact ⟨pos + 1, pos + 1, _, _, _, _, _, HC1.out, by go_num, by omega, by omega, hide (by rw [hG.out, HG.out]), by omega, by omega⟩
            case measure => rw [pos_of HC1.out.I, hmeas]; omega
          · obtain ⟨e1, e2⟩ := at_mark L hpL hX
            have HG := hide (goAt_mark L ws hbp hpL e2)
            rw [hpush] at HG
            rw [hX] at hnx
            rw [e1] at HC
            clear hpush hne hnil hsg hX e1 e2 Hseg
            generalize seg l b pos = x at *
            go_wp2_with (first
            | (at_builtin
               refine wpList_append_any _ rfl (.tmp 24) (.tmp 31) _ rfl w.heap.size 57 i0 _ 2 24 Tryz.underlying53 hi0 hz0 hz1 hz2 rfl (by omega) _ _ _ rfl
                 ((HC.out.alloc _).Wd) _ _ 1 _ _ rfl (reads_word _ _ _ _ _ rfl) (wcs_one _) (by unfold maxLen; omega) (by omega) (by simp; omega) ?_
               intro v1 w1 hown1 hg1 hat1
               rw [← wcs_append] at hown1
               have HC1 := hide ((HC.out.alloc _).word hTT hown1 hg1 hat1)
               have hW1 := HC1.out.lt
               obtain ⟨A1, c1, rfl, _⟩ := own_form hown1
               clear hg1 hat1 hown1)
            | (at_builtin
               refine wpList_append_any _ rfl (.tmp 37) (.tmp 41) _ rfl w.heap.size 55 j0 _ 2 32 Tryz.underlying34 hj0 hy0 hy1 hy2 rfl (by omega) _ _ _ rfl
                 ((HC1.out.alloc _).P) _ _ 1 _ _ rfl (reads_piece _ _ _ _ _ _ _ rfl) (pcs_one1 _ _ _ _) (by unfold maxLen; omega) (by omega) (by simp; omega) ?_
               intro v2 w2 hown2 hg2 hat2
               have HC2 := hide ((HC1.out.alloc _).piece hTT hown2 hg2)
               clear hg2 hat2 hown2))
            go_roundw
            case rel => exact ⟨pos + 1, pos + 1, _, _, _, _, _, HC2.out, by go_num, by omega, by omega, hide (by rw [hG.out, HG.out, List.append_assoc]; rfl), by omega, by omega⟩
            case measure => rw [pos_of HC2.out.I, hmeas]; omega
        · have hbe : b = pos := by omega
          have hpush : ∀ vs : List W, push (seg L b pos) vs b = vs := fun vs => by rw [hsg, hbe, seg_self]; rfl
          clear hsl
          rcases hX with hX | hX
          · obtain ⟨e1, e2⟩ := at_blank L hpL hX
            have HG := hide (goAt_blank L ws hbp hpL e2)
            rw [hpush] at HG
            rw [hX] at hnx
            rw [e1] at HC
            clear hpush hnil hsg hX e1 e2 Hseg hbe
            go_wp2
            go_roundw
            case rel => exact ⟨pos + 1, pos + 1, _, _, _, _, _, HC.out, by go_num, by omega, by omega, hide (by rw [hG.out, HG.out]), by omega, by omega⟩
            case measure => rw [pos_of HC.out.I, hmeas]; omega
          · obtain ⟨e1, e2⟩ := at_mark L hpL hX
            have HG := hide (goAt_mark L ws hbp hpL e2)
            rw [hpush] at HG
            rw [hX] at hnx
            rw [e1] at HC
            clear hpush hnil hsg hX e1 e2 Hseg hbe
            go_wp2_with (first
            | (at_builtin
               refine wpList_append_any _ rfl (.tmp 37) (.tmp 41) _ rfl w.heap.size 55 j0 _ 2 32 Tryz.underlying34 hj0 hy0 hy1 hy2 rfl (by omega) _ _ _ rfl
                 ((HC.out.alloc _).P) _ _ 1 _ _ rfl (reads_piece _ _ _ _ _ _ _ rfl) (pcs_one1 _ _ _ _) (by unfold maxLen; omega) (by omega) (by simp; omega) ?_
               intro v2 w2 hown2 hg2 hat2
               have HC2 := hide ((HC.out.alloc _).piece hTT hown2 hg2)
               clear hg2 hat2 hown2))
            go_roundw
            case rel => exact ⟨pos + 1, pos + 1, _, _, _, _, _, HC2.out, by go_num, by omega, by omega, hide (by rw [hG.out, HG.out, List.append_assoc]; rfl), by omega, by omega⟩
            case measure => rw [pos_of HC2.out.I, hmeas]; omega
      · have HG := hide (goAt_rune L ws hbp hpL (fun e => hX (.inl e)) (fun e => hX (.inr e)))
        have hx1 : ((rn (str L) pos : Int) != 32) = true := bne_iff_ne.2 fun e => hX (.inl (by omega))
        have hx2 : ((rn (str L) pos : Int) != 124) = true := bne_iff_ne.2 fun e => hX (.inr (by omega))
        clear hX Hseg
        rw [hsz] at hwl
        generalize wd (str L) pos = V at *
        generalize rn (str L) pos = X at *
        go_wp2
        go_roundw
        case rel => exact ⟨pos + V, b, _, _, _, _, _, HC.out, rfl, by omega, by omega, hide (by rw [hG.out, HG.out]), by omega, by omega⟩
        case measure => rw [pos_of HC.out.I, hmeas]; omega
    · have hnx : ∀ ty, (Instr.next (.pointer (some ⟨w.heap.size, 0, none⟩)) true ty).run Tryz.prog wr = .ok (.tuple #[.bool false]) wr := fun ty => run_next_end_at wr w.heap.size (str L) pos ty hC.I (by omega)
      have hpe : pos = l.length + 1 := by omega
      subst hpe
      obtain ⟨A, c, rfl, hin⟩ := hC.told
      have HE := hide (Hend.out ps ws b hG.out hbp)
      have hbw := hC.b
      clear hC hG Hend Hseg H0
      go_wp2
      go_ret
      rw [HE.out]
      exact ⟨_, _, _, rfl, hin, by omega, hbw⟩
end Go.Proofs.YtcgcgjcjgpcfiaaGreatDoor.Rule
