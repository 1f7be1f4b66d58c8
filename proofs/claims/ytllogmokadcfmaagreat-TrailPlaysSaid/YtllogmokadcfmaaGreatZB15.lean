/-
  Some texts of this claim, one behind the other: LabelFit, LabelFitR. What each proves, and its condition, stands at its head.
-/
import Derived.Test.YtllogmokadcfmaaGreatZB14
import Derived.LoopTactic
/-
  The contracts of the program's Size and Fit: how many runes a text has, and whether it is a name that may be. Condition: the text has no more than 9,223,372,036,854,775,807 bytes.
-/
namespace Go.Proofs.YtllogmokadcfmaaGreat.Label
open Go.RowKit Go.Lib
set_option linter.unusedVariables false
theorem below_iter (w : World) (s : ByteArray) (p : Nat) : Below w.heap.size w (w.iter s p) := (Below.refl _ _).alloc (Nat.le_refl _) _
theorem ok_no (i x : Nat) (l : List Nat) (h : okN i x = false) : allOk i (x :: l) = false := by simp [allOk, h]
theorem ok_yes (i x : Nat) (l : List Nat) (h : okN i x = true) : allOk i (x :: l) = allOk (i + 1) l := by simp [allOk, h]
theorem okN_other (i x : Nat) (h : kindN x = 4) : okN i x = false := by simp [okN, h]
theorem okN_first (x : Nat) (h : ¬ kindN x ≤ 1) : okN 0 x = false := by simp [okN]; omega
theorem okN_letter (i x : Nat) (h : kindN x ≤ 1) : okN i x = true := by simp [okN]; omega
theorem okN_later (i x : Nat) (h : kindN x ≠ 4) (hi : i ≠ 0) : okN i x = true := by simp [okN]; omega
set_option maxHeartbeats 4000000 in
set_option maxRecDepth 100000 in
theorem fit_any (s : ByteArray) (w : World) (hs : s.size ≤ 9223372036854775807) :
   Calls Tryz.prog 31 #[.string s] w fun e w' => e = .returned (.bool (fitL (runes s 0))) ∧ Below w.heap.size w w' := by
  obtain ⟨L, hL⟩ : ∃ L, L = (runes s 0).length := ⟨_, rfl⟩
  obtain ⟨ok, hok⟩ : ∃ ok, ok = allOk 0 (runes s 0) := ⟨_, rfl⟩
  have hfit : fitL (runes s 0) = (ok && (decide (1 ≤ L) && decide (L ≤ 12))) := by rw [fitL, ← hok, ← hL]
  rw [hfit]
  clear hfit
  have Hend := hide (fun (p : Nat) (h : ¬ p < s.size) => runes_end s p h)
  have Hstp := hide (fun (p : Nat) (h : p < s.size) => runes_step s p h)
  go_enter Tryz.func31, Tryz.ntmps31
  go_wp2
  go_loopw [3] (fun n w' => ∃ (pos acc : Nat), w' = w.iter s pos ∧ n = .int .i64 (acc : Int) ∧ Hid (acc + (runes s pos).length = L) ∧ Hid (ok = allOk acc (runes s pos)) ∧ pos ≤ s.size ∧ acc ≤ pos) (fun _ w' => s.size - w'.iterPos w.heap.size)
  case atStart => exact ⟨0, 0, rfl, rfl, hide (by rw [hL, Nat.zero_add]), hide hok, by omega, Nat.le_refl _⟩
  case round =>
    obtain ⟨pos, acc, rfl, rfl, hc, ho, hb, ha⟩ := hrel
    by_cases hp : pos < s.size
    · have hnx : ∀ ty, (Instr.next (.pointer (some ⟨w.heap.size, 0, none⟩)) true ty).run Tryz.prog (w.iter s pos) = .ok (.tuple #[.bool true, .int .i64 pos, .int .i32 (rn s pos)]) (w.iter s (pos + wd s pos)) := fun ty => run_next_any w s pos ty hp
      have hwd := wd_pos s pos hp
      have hwl := wd_le s pos hp
      have hrl := rn_le s pos
      have Hc : Hid (acc + 1 + (runes s (pos + wd s pos)).length = L) := hide (by have := hc.out; rw [Hstp.out pos hp, List.length_cons] at this; omega)
      have Ho : Hid (ok = allOk acc (rn s pos :: runes s (pos + wd s pos))) := hide (by rw [ho.out, Hstp.out pos hp])
      have HK := hide (fun wx => kind_any (rn s pos) wx hrl)
      have hkl := kindN_le (rn s pos)
      have HLt := hide (fun wx => letter_any (kindN (rn s pos)) wx hkl)
      have Hn4 := hide (fun (h : kindN (rn s pos) = 4) => Ho.out.trans (ok_no _ _ _ (okN_other acc _ h)))
      have Hn0 := hide (fun (h0 : acc = 0) (h : ¬ kindN (rn s pos) ≤ 1) => Ho.out.trans (ok_no _ _ _ (by rw [h0]; exact okN_first _ h)))
      have Hy := hide (fun (h4 : kindN (rn s pos) ≠ 4) (h : acc ≠ 0 ∨ kindN (rn s pos) ≤ 1) => Ho.out.trans (ok_yes _ _ _ (h.elim (okN_later acc _ h4) (okN_letter acc _))))
      clear hc ho Ho Hend Hstp hL hok
      generalize wd s pos = W at *
      generalize kindN (rn s pos) = K at *
      generalize rn s pos = X at *
      by_cases hk4 : K = 4
      · have Hf := hide (Hn4.out hk4)
        clear Hn4 Hn0 Hy Hc HLt
        subst hk4
        go_wp2_with (first
          | (go_at_call 65
             refine (HK.out _).mono ?_
             rintro e w1 ⟨rfl, rfl⟩))
        go_ret
        exact ⟨by rw [Hf.out]; rfl, below_iter _ _ _⟩
      · by_cases ha0 : acc = 0
        · subst ha0
          by_cases hk1 : K ≤ 1
          · have Hf := hide (Hy.out hk4 (.inr hk1))
            clear Hn4 Hn0 Hy
            rw [decide_eq_true hk1] at HLt
            have hkb : ((K : Int) == 4) = false := by rw [beq_eq_false_iff_ne]; omega
            go_wp2_with (first
              | (go_at_call 65
                 refine (HK.out _).mono ?_
                 rintro e w1 ⟨rfl, rfl⟩)
              | (go_at_call 66
                 refine (HLt.out _).mono ?_
                 rintro e w1 ⟨rfl, rfl⟩))
            go_roundw
            case rel => exact ⟨pos + W, 1, rfl, by go_num, Hc, Hf, by omega, by omega⟩
            case measure => simp; omega
          · have Hf := hide (Hn0.out rfl hk1)
            clear Hn4 Hn0 Hy Hc
            rw [decide_eq_false hk1] at HLt
            have hkb : ((K : Int) == 4) = false := by rw [beq_eq_false_iff_ne]; omega
            go_wp2_with (first
              | (go_at_call 65
                 refine (HK.out _).mono ?_
                 rintro e w1 ⟨rfl, rfl⟩)
              | (go_at_call 66
                 refine (HLt.out _).mono ?_
                 rintro e w1 ⟨rfl, rfl⟩))
            go_ret
            exact ⟨by rw [Hf.out]; rfl, below_iter _ _ _⟩
        · have Hf := hide (Hy.out hk4 (.inl ha0))
          clear Hn4 Hn0 Hy HLt
          have hkb : ((K : Int) == 4) = false := by rw [beq_eq_false_iff_ne]; omega
          have hab : ((acc : Int) == 0) = false := by rw [beq_eq_false_iff_ne]; omega
          go_wp2_with (first
            | (go_at_call 65
               refine (HK.out _).mono ?_
               rintro e w1 ⟨rfl, rfl⟩))
          go_roundw
          case rel => exact ⟨pos + W, acc + 1, rfl, by go_num, Hc, Hf, by omega, by omega⟩
          case measure => simp; omega
    · have hnx : ∀ ty, (Instr.next (.pointer (some ⟨w.heap.size, 0, none⟩)) true ty).run Tryz.prog (w.iter s pos) = .ok (.tuple #[.bool false]) (w.iter s pos) := fun ty => run_next_end w s pos ty hp
      have Hc : acc = L := by have := hc.out; rw [Hend.out pos hp] at this; simpa using this
      have Ho : ok = true := by rw [ho.out, Hend.out pos hp]; rfl
      subst Hc
      subst Ho
      clear hc ho Hend Hstp hL hok
      by_cases h1 : 1 ≤ acc
      · by_cases h2 : acc ≤ 12
        · have h2z : (acc : Int) ≤ 12 := by omega
          go_wp2
          go_ret
          exact ⟨by first | rfl | (rw [decide_eq_true h1, decide_eq_true h2]; rfl), below_iter _ _ _⟩
        · have h2z : ¬ ((acc : Int) ≤ 12) := by omega
          go_wp2
          go_ret
          exact ⟨by first | rfl | (rw [decide_eq_true h1, decide_eq_false h2]; rfl), below_iter _ _ _⟩
      · go_wp2
        go_ret
        exact ⟨by first | rfl | (rw [decide_eq_false h1]; rfl), below_iter _ _ _⟩
end Go.Proofs.YtllogmokadcfmaaGreat.Label
/-
  The contract of the document's own Fit: whether a text is a name that may be. Condition: the text has no more than 1,000,000,000 bytes.
-/
namespace Go.Proofs.YtllogmokadcfmaaGreat.Label
open Go.RowKit Go.Lib
set_option linter.unusedVariables false
theorem allOk_end (l : List Nat) (i : Nat) : allOk (i + l.length) (l.drop l.length) = true := by rw [List.drop_length]; rfl
set_option maxHeartbeats 4000000 in
set_option maxRecDepth 100000 in
theorem refFit_any (s : ByteArray) (w : World) (hs : s.size ≤ 1000000000) :
   Calls Tryz.prog 59 #[.string s] w fun e w' => e = .returned (.bool (fitL (runes s 0))) ∧ Below w.heap.size w w' := by
  have HR := hide (refRunes_any s w hs)
  have hlen := runes_len s 0 (by omega)
  have hmem := hide (runes_mem s 0)
  have Hsm := hide (fit_small s)
  generalize runes s 0 = l at *
  have hdef : fitL l = (allOk 0 l && (decide (1 ≤ l.length) && decide (l.length ≤ 12))) := rfl
  by_cases hbig : 100 < s.size
  · have Hf : Hid (fitL l = false) := hide (by
      cases h : fitL l with
      | false => rfl
      | true => exact absurd (Hsm.out h) (by omega))
    clear Hsm hdef HR hmem
    go_enter Tryz.func59, Tryz.ntmps59
    go_wp2
    go_ret
    exact ⟨by rw [Hf.out]; rfl, Below.refl _ _⟩
  · have hd := hide hdef
    clear Hsm hdef
    go_enter Tryz.func59, Tryz.ntmps59
    go_upto_region 5 with (first
      | (go_at_call 80
         refine HR.out.mono ?_
         rintro e w1 ⟨v, rfl, ⟨A, c, rfl, hr⟩, hb, _⟩))
    clear HR
    go_loopw [4] (fun u wr => ∃ k : Nat, k ≤ l.length ∧ u = .int .i64 (k : Int) ∧ Below w.heap.size w wr ∧ Reads wr wr.heap.size 1 A l.length (ncs l) ∧ Hid (allOk 0 l = allOk (0 + k) (l.drop k))) (fun u _ => l.length - (RowKit.intOf u).toNat)
    case atStart => exact ⟨0, by omega, rfl, hb, hr, hide rfl⟩
    case round =>
      obtain ⟨k, hk, rfl, hbr, hrr, ho⟩ := hrel
      clear hb hr
      by_cases hlt : k < l.length
      · obtain ⟨ad, x, hA, hab, hx, hcell⟩ := ncs_at hrr hlt
        subst hA
        have hxm : x ≤ 1114111 := hmem.out x (List.mem_of_getElem? hx)
        have HK := hide (fun wx => refKind_any x wx hxm)
        have hkl := kindN_le x
        have hd2 := ho.out.trans (allOk_drop l 0 k x hx)
        rw [Nat.zero_add] at hd2
        have Hn4 := hide (fun (h : kindN x = 4) => hd2.trans (by rw [okN_other k x h]; rfl : _ = false))
        have Hn0 := hide (fun (h0 : k = 0) (h : ¬ kindN x ≤ 1) => hd2.trans (by rw [h0, okN_first x h]; rfl : _ = false))
        have Hy := hide (fun (h4 : kindN x ≠ 4) (h : k ≠ 0 ∨ kindN x ≤ 1) => hd2.trans (by rw [h.elim (okN_later k x h4) (okN_letter k x), Bool.true_and] : _ = allOk (k + 1) (l.drop (k + 1))))
        clear hx ho hd2 hmem
        generalize kindN x = K at *
        by_cases hk4 : K = 4
        · have Hf := hide (Hn4.out hk4)
          clear Hn4 Hn0 Hy
          subst hk4
          go_wp2_with (first
            | (go_at_call 81
               refine (HK.out _).mono ?_
               rintro e w2 ⟨rfl, rfl⟩))
          go_ret
          exact ⟨by rw [hd.out, Hf.out]; rfl, hbr⟩
        · have hkb : ((K : Int) == 4) = false := by rw [beq_eq_false_iff_ne]; omega
          by_cases ha0 : k = 0
          · subst ha0
            rw [add_zero'] at hcell
            by_cases hk1 : K ≤ 1
            · have Hf := hide (Hy.out hk4 (.inr hk1))
              clear Hn4 Hn0 Hy
              have hk1z : ¬ (1 < (K : Int)) := by omega
              go_wp2_with (first
                | (go_at_call 81
                   refine (HK.out _).mono ?_
                   rintro e w2 ⟨rfl, rfl⟩))
              go_roundw
              case rel => exact ⟨1, by omega, by go_num, hbr, hrr, hide (by rw [Hf.out])⟩
              case measure => simp [RowKit.intOf]; omega
            · have Hf := hide (Hn0.out rfl hk1)
              clear Hn4 Hn0 Hy
              have hk1z : 1 < (K : Int) := by omega
              go_wp2_with (first
                | (go_at_call 81
                   refine (HK.out _).mono ?_
                   rintro e w2 ⟨rfl, rfl⟩))
              go_ret
              exact ⟨by rw [hd.out, Hf.out]; rfl, hbr⟩
          · have Hf := hide (Hy.out hk4 (.inl ha0))
            clear Hn4 Hn0 Hy
            have hab0 : ((k : Int) == 0) = false := by rw [beq_eq_false_iff_ne]; omega
            go_wp2_with (first
              | (go_at_call 81
                 refine (HK.out _).mono ?_
                 rintro e w2 ⟨rfl, rfl⟩))
            go_roundw
            case rel => exact ⟨k + 1, by omega, by go_num, hbr, hrr, hide (by rw [Hf.out, Nat.zero_add])⟩
            case measure => simp [RowKit.intOf]; omega
      · have hk2 : k = l.length := by omega
        subst hk2
        have Ho : Hid (allOk 0 l = true) := hide (by rw [ho.out]; exact allOk_end l 0)
        clear ho hmem
        by_cases h1 : 1 ≤ l.length
        · by_cases h2 : l.length ≤ 12
          · have h2z : ((l.length : Nat) : Int) ≤ 12 := by omega
            go_wp2
            go_ret
            exact ⟨by rw [hd.out, Ho.out, decide_eq_true h1, decide_eq_true h2]; rfl, hbr⟩
          · have h2z : ¬ (((l.length : Nat) : Int) ≤ 12) := by omega
            go_wp2
            go_ret
            exact ⟨by rw [hd.out, Ho.out, decide_eq_true h1, decide_eq_false h2]; rfl, hbr⟩
        · go_wp2
          go_ret
          exact ⟨by rw [hd.out, Ho.out, decide_eq_false h1]; rfl, hbr⟩
end Go.Proofs.YtllogmokadcfmaaGreat.Label
